package quorum

import (
	"testing"

	"strongbox/api"
)

// The chapter's examples.
func TestExamples(t *testing.T) {
	for wiped := range 3 {
		w, b := begun(t, two(2, 3), "", "x")
		same(t, b, man(1, 2, "x"))
		strike(t, w, wipe(wiped))
		does(t, w, opening(), man(2, 2, "x"), api.OK, 6+1+3+6)
	}
	for answers := range 3 {
		w, _ := begun(t, two(2, 3), "", "x")
		strikeAll(t, w, 7&^(1<<answers), down)
		refuses(t, w, opening(), api.ErrQuorum, 6)
	}
}

// wrongs are what may stand in a slot of three stores, and is no sound replica.
func wrongs() map[string]string {
	right := bytesOf(man(1, 1, "body"))
	foreign := func(k, n int) string { return bytesOf(Best{Stamp: stamp(1, 1), Code: two(k, n), Body: "body"}) }
	return map[string]string{
		"no byte":          "",
		"one byte fewer":   right[:len(right)-1],
		"one byte more":    right + "\x00",
		"half of it":       right[:25],
		"another byte":     right[:20] + "?" + right[21:],
		"twice":            right + right,
		"of two stores":    foreign(2, 2),
		"of four stores":   foreign(2, 4),
		"of twelve stores": foreign(12, 12),
		"of no code":       foreign(0, 3),
		"K above N":        foreign(4, 3),
		"another epoch":    bytesOf(man(1<<31, 1, "body")),
	}
}

// P12.1: without a sound replica it is ErrNone where all answer, ErrQuorum where some do not, whichever; for Open too.
func TestNoneSound(t *testing.T) {
	for _, c := range few() {
		for silent := range 1 << c.N {
			w := of(t, c.N)
			strikeAll(t, w, silent, down)
			want := api.ErrNone
			if silent > 0 {
				want = api.ErrQuorum
			}
			refuses(t, w, reading(), want, 2*c.N)
			refuses(t, w, opening(), want, 2*c.N)
		}
	}
	for what, data := range wrongs() {
		t.Log(what)
		w := of(t, 3)
		for i := range 3 {
			put(t, w, i, "m0", data)
			put(t, w, i, "m1", data)
		}
		refuses(t, w, reading(), api.ErrNone, 6)
		refuses(t, w, opening(), api.ErrNone, 6)
		strike(t, w, down(1))
		refuses(t, w, reading(), api.ErrQuorum, 6)
		refuses(t, w, opening(), api.ErrQuorum, 6)
	}
}

// P12.1: sound replicas of stores that do not answer are none.
func TestNoneSoundThatAnswer(t *testing.T) {
	w := of(t, 3)
	lay(t, w, 1, man(1, 1, "x"), man(1, 2, "y"))
	strike(t, w, down(1))
	refuses(t, w, reading(), api.ErrQuorum, 6)
	refuses(t, w, opening(), api.ErrQuorum, 6)
	strike(t, w, up(1))
	does(t, w, reading(), man(1, 2, "y"), api.OK, 6)
}

// P12.1: Read needs N - K + 1 that answer, Open K besides: of all codes, just as many, and one fewer.
func TestHowManyAnswer(t *testing.T) {
	for _, c := range codes() {
		whole, b := begun(t, c, "x")
		next := b
		next.Stamp.Epoch = 2
		for silent := range c.N + 1 {
			w := whole.Copy()
			// Those at one end, or at the other one.
			which := 1<<silent - 1
			if c.K%2 == 0 {
				which <<= c.N - silent
			}
			strikeAll(t, w, which, down)
			answer := c.N - silent
			if answer < c.N-c.K+1 {
				refuses(t, w, reading(), api.ErrQuorum, 2*c.N)
				refuses(t, w, opening(), api.ErrQuorum, 2*c.N)
				continue
			}
			does(t, w, reading(), b, api.OK, 2*c.N)
			if answer < c.K {
				refuses(t, w, opening(), api.ErrQuorum, 2*c.N)
				continue
			}
			does(t, w, opening(), next, api.OK, 2*c.N+3*answer)
		}
	}
}

// P12.1: whichever stores answer.
func TestWhichAnswer(t *testing.T) {
	for _, c := range few() {
		whole, b := begun(t, c, "x", "y")
		for silent := range 1 << c.N {
			w := whole.Copy()
			strikeAll(t, w, silent, down)
			if c.N-ones(silent) < c.N-c.K+1 {
				refuses(t, w, reading(), api.ErrQuorum, 2*c.N)
			} else {
				was := w.Copy()
				does(t, w, reading(), b, api.OK, 2*c.N)
				alike(t, w, was)
			}
		}
	}
}

// P12.1: how many are needed is told by the newest one's K, not by that of another.
func TestNewestOnesK(t *testing.T) {
	of5 := func(k, gen int) Best { return Best{Stamp: stamp(1, gen), Code: two(k, 5), Body: "x"} }
	w := of(t, 5)
	lay(t, w, 0, of5(1, 1), of5(5, 2))
	lay(t, w, 1, of5(4, 9), of5(1, 1))
	strikeAll(t, w, 0b11100, down)
	does(t, w, reading(), of5(4, 9), api.OK, 10)
	refuses(t, w, opening(), api.ErrQuorum, 10)
	lay(t, w, 0, of5(3, 10), Best{})
	refuses(t, w, reading(), api.ErrQuorum, 10)
	strike(t, w, up(2))
	does(t, w, reading(), of5(3, 10), api.OK, 10)
	next := of5(3, 10)
	next.Stamp.Epoch = 2
	does(t, w, opening(), next, api.OK, 10+5+6)
}

// P12.1: the newest is the one of the highest stamp, wherever it stands: an epoch counts ahead of a generation.
func TestNewest(t *testing.T) {
	rising := []Best{man(0, 0, "a"), man(0, 1, "b"), man(0, api.MaxCount, "c"), man(1, 0, "d"), man(1, 1, "e"), man(1, 256, "f"), man(255, 1, "g"), man(256, 0, "h"), man(api.MaxCount, 0, "i"), man(api.MaxCount, api.MaxCount, "j")}
	for high := range rising {
		for low := range high {
			for at := range 6 {
				w := of(t, 3)
				for i := range 6 {
					m := rising[low]
					if i == at {
						m = rising[high]
					}
					put(t, w, i/2, []string{"m0", "m1"}[i%2], bytesOf(m))
				}
				does(t, w, reading(), rising[high], api.OK, 6)
			}
		}
	}
}

// P12.1: of several of the highest stamp it is the first one met: store by store, m0 ahead of m1.
func TestFirstMet(t *testing.T) {
	slots := []string{"m0", "m1"}
	for which := 1; which < 1<<6; which++ {
		w := of(t, 3)
		first := -1
		for i := range 6 {
			m := man(1, 2, "less")
			if in(which, i) {
				m = man(2, 1, string(rune('a'+i)))
				if first < 0 {
					first = i
				}
			}
			put(t, w, i/2, slots[i%2], bytesOf(m))
		}
		does(t, w, reading(), man(2, 1, string(rune('a'+first))), api.OK, 6)
		// One that does not answer is not met.
		strike(t, w, down(0))
		for first = 2; first < 6 && !in(which, first); first++ {
		}
		if first < 6 {
			does(t, w, reading(), man(2, 1, string(rune('a'+first))), api.OK, 6)
		} else {
			does(t, w, reading(), man(1, 2, "less"), api.OK, 6)
		}
	}
}

// P12.1: a manifest whose code's N is not how many stores there are is none, be its stamp the highest.
func TestOfAnotherN(t *testing.T) {
	for n := 1; n <= most; n++ {
		for other := 1; other <= most; other++ {
			if other == n {
				continue
			}
			w := of(t, n)
			for i := range n {
				put(t, w, i, "m1", bytesOf(Best{Stamp: stamp(9, 9), Code: two(1, other), Body: "another"}))
			}
			refuses(t, w, reading(), api.ErrNone, 2*n)
			m := Best{Stamp: stamp(1, 1), Code: two(1, n), Body: "own"}
			put(t, w, n-1, "m0", bytesOf(m))
			does(t, w, reading(), m, api.OK, 2*n)
		}
	}
}

// P12.1, P12.2: bodies of no byte, of any bytes, and of as many as may be, come back byte by byte.
func TestBodies(t *testing.T) {
	for _, body := range []string{"", "\x00", "x", "man1", bytesOf(man(9, 9, "within")), sample(1000, 1), sample(room-1, 2), sample(room, 3)} {
		w, b := begun(t, two(2, 3), body)
		same(t, b, man(1, 1, body))
		does(t, w, reading(), b, api.OK, 6)
		strike(t, w, wipe(1))
		does(t, w, counting(b), Best{Stamp: stamp(0, 1)}, api.OK, 6)
		does(t, w, mending(b), Best{}, api.OK, 8)
		does(t, w, counting(b), Best{}, api.OK, 6)
		does(t, w, opening(), man(2, 1, body), api.OK, 15)
		does(t, w, writing(man(2, 1, "not looked at"), body), man(2, 2, body), api.OK, 12)
		does(t, w, reading(), man(2, 2, body), api.OK, 6)
	}
}

// Read and Bad change nothing, sync nothing, and lose no refusal that is to come.
func TestReadAlone(t *testing.T) {
	w, b := begun(t, two(2, 3), "x", "y")
	same(t, w.Put(0, api.Object{Name: "m0", Data: "not synced"}), api.OK)
	same(t, w.Put(1, api.Object{Name: "m0", Data: bytesOf(man(1, 3, "z"))}), api.OK)
	strike(t, w, refusing(2, 0))
	was := w.Copy()
	for range 3 {
		does(t, w, reading(), man(1, 3, "z"), api.OK, 6)
		does(t, w, counting(b), Best{}, api.OK, 6)
		does(t, w, counting(man(1, 3, "z")), Best{Stamp: stamp(0, 2)}, api.OK, 6)
	}
	alike(t, w, was)
	same(t, w.Put(2, api.Object{Name: "a"}), api.ErrIO)
}
