package quorum

import (
	"math"
	"testing"

	"strongbox/api"
)

// P12.1: Init and Write, of all codes: what is told is what stands for good on all stores, in the one slot and the other in turn.
func TestWritten(t *testing.T) {
	for _, c := range codes() {
		w := of(t, c.N)
		b := Best{Stamp: stamp(1, 1), Code: c, Body: "body 1"}
		does(t, w, starting(c, "body 1"), b, api.OK, 4*c.N)
		m0, m1 := bytesOf(b), ""
		for gen := 2; gen < 6; gen++ {
			for i := range c.N {
				tells(t, w, i, m0, m1)
				stands(t, w, i, m0, m1)
			}
			does(t, w, reading(), b, api.OK, 2*c.N)
			next := Best{Stamp: stamp(1, gen), Code: c, Body: sample(gen, gen)}
			does(t, w, writing(b, next.Body), next, api.OK, 4*c.N)
			b = next
			if gen%2 == 0 {
				m1 = bytesOf(b)
			} else {
				m0 = bytesOf(b)
			}
		}
	}
}

// P12.1: Write goes by the base that is handed in: not by what stands there, and not by the base's body.
func TestWrittenOverAnyBase(t *testing.T) {
	w := of(t, 3)
	does(t, w, writing(man(0, 0, ""), "x"), man(0, 1, "x"), api.OK, 12)
	does(t, w, writing(man(7, 40, sample(room+1, 1)), "y"), man(7, 41, "y"), api.OK, 12)
	does(t, w, writing(man(3, 5, "z"), "z"), man(3, 6, "z"), api.OK, 12)
	for i := range 3 {
		tells(t, w, i, bytesOf(man(3, 6, "z")), bytesOf(man(7, 41, "y")))
	}
	does(t, w, reading(), man(7, 41, "y"), api.OK, 6)
	does(t, w, writing(man(api.MaxCount, api.MaxCount-1, ""), ""), man(api.MaxCount, api.MaxCount, ""), api.OK, 12)
	does(t, w, writing(Best{Stamp: stamp(api.MaxCount, api.MaxCount-1), Code: two(3, 3)}, ""), Best{Stamp: stamp(api.MaxCount, api.MaxCount), Code: two(3, 3)}, api.OK, 12)
}

// wrongCodes may not be, or are of another number of stores than n.
func wrongCodes(n int) []api.Code {
	return []api.Code{{}, {K: 0, N: n}, {K: -1, N: n}, {K: n + 1, N: n}, {K: n + 1, N: n + 1}, {K: 1, N: n + 1}, {K: n, N: n - 1}, {K: 1, N: n - 1},
		{K: -n, N: -n}, {K: 1, N: -n}, {K: math.MinInt, N: n}, {K: math.MaxInt, N: n}, {K: 1, N: math.MaxInt}, {K: math.MinInt, N: math.MinInt}, {K: 1, N: n + 256}, {K: 257, N: n}}
}

// wrongCounts may be neither an epoch nor a generation.
func wrongCounts() []int {
	return []int{-1, -2, -256, math.MinInt32, math.MinInt, api.MaxCount + 1, api.MaxCount + 2, 1<<32 - 1, 1 << 32, 1<<32 + 1, math.MaxInt}
}

// P12.1: wrong arguments are refused ahead of any call, also without the power: ErrArg ahead of ErrTooLarge.
func TestWrongArguments(t *testing.T) {
	huge := sample(room+1, 1)
	for n := 1; n <= most; n++ {
		w := of(t, n)
		for _, dark := range []bool{false, true} {
			if dark {
				darken(t, w)
			}
			for _, c := range wrongCodes(n) {
				for _, body := range []string{"", "x", huge} {
					refuses(t, w, starting(c, body), api.ErrArg, 0)
					refuses(t, w, writing(Best{Stamp: stamp(1, 1), Code: c}, body), api.ErrArg, 0)
					refuses(t, w, writing(Best{Stamp: stamp(1, api.MaxCount), Code: c}, body), api.ErrArg, 0)
				}
			}
			c := two(1, n)
			for _, count := range wrongCounts() {
				for _, s := range []api.Stamp{stamp(count, 1), stamp(1, count), stamp(count, count), stamp(count, api.MaxCount)} {
					for _, body := range []string{"x", huge} {
						refuses(t, w, writing(Best{Stamp: s, Code: c}, body), api.ErrArg, 0)
					}
				}
			}
			for _, body := range []string{huge, huge + "x", sample(api.MaxObject, 2), sample(3*api.MaxObject, 3)} {
				refuses(t, w, starting(c, body), api.ErrTooLarge, 0)
				refuses(t, w, writing(Best{Stamp: stamp(1, 1), Code: c}, body), api.ErrTooLarge, 0)
			}
			refuses(t, w, writing(Best{Stamp: stamp(1, api.MaxCount), Code: c}, "x"), api.ErrTooLarge, 0)
			refuses(t, w, writing(Best{Stamp: stamp(1, api.MaxCount), Code: c}, huge), api.ErrTooLarge, 0)
			refuses(t, w, writing(Best{Stamp: stamp(api.MaxCount, api.MaxCount), Code: c}, ""), api.ErrTooLarge, 0)
		}
	}
}

// P12.1: what is too large is told ahead of what stands there, and of stores that do not answer.
func TestTooLargeFirst(t *testing.T) {
	w, b := begun(t, two(2, 3), "x")
	strikeAll(t, w, 6, down)
	huge := sample(room+1, 1)
	refuses(t, w, starting(b.Code, huge), api.ErrTooLarge, 0)
	refuses(t, w, writing(b, huge), api.ErrTooLarge, 0)
	b.Stamp.Gen = api.MaxCount
	refuses(t, w, writing(b, "x"), api.ErrTooLarge, 0)
	refuses(t, w, starting(b.Code, "x"), api.ErrTwice, 6)
	b.Stamp.Gen--
	refuses(t, w, writing(b, "x"), api.ErrQuorum, 6)
}

// P12.1: Write needs K that answer, whichever: it is put to these; of fewer nothing is put.
func TestWrittenToWhichAnswer(t *testing.T) {
	for _, c := range few() {
		for silent := range 1 << c.N {
			w, b := begun(t, c, "x")
			strikeAll(t, w, silent, down)
			answer := c.N - ones(silent)
			if answer < c.K {
				refuses(t, w, writing(b, "y"), api.ErrQuorum, 2*c.N)
				continue
			}
			next := Best{Stamp: stamp(1, 2), Code: c, Body: "y"}
			does(t, w, writing(b, "y"), next, api.OK, 2*c.N+2*answer)
			for i := range c.N {
				m1 := bytesOf(next)
				if in(silent, i) {
					m1 = ""
				}
				tells(t, w, i, bytesOf(b), m1)
				stands(t, w, i, bytesOf(b), m1)
			}
		}
	}
}

// P12.1: whichever stores refuse it: if K have taken it, it is OK; of fewer it is ErrIO, and what was put stays. Stores that refused are synced, too.
func TestWriteRefused(t *testing.T) {
	for _, c := range few() {
		for refuse := range 1 << c.N {
			for _, first := range []bool{false, true} {
				w, b := begun(t, c, "x")
				next := Best{Stamp: stamp(1, 2), Code: c, Body: "y"}
				order := writing(b, "y")
				m0, slot := bytesOf(b), "m1"
				if first {
					w, order = of(t, c.N), starting(c, "y")
					next.Stamp.Gen, slot = 1, "m0"
				}
				for i := range c.N {
					same(t, w.Put(i, api.Object{Name: "a", Data: "not synced"}), api.OK)
				}
				strikeAll(t, w, refuse, func(i int) api.Fault { return refusing(i, 0) })
				if c.N-ones(refuse) < c.K {
					does(t, w, order, Best{}, api.ErrIO, 4*c.N)
				} else {
					does(t, w, order, next, api.OK, 4*c.N)
				}
				same(t, w.Crash(nil), api.OK)
				for i := range c.N {
					want := []string{"a", "not synced"}
					if !first {
						want = append(want, "m0", m0)
					}
					if !in(refuse, i) {
						want = append(want, slot, bytesOf(next))
					}
					holds(t, w, i, want...)
				}
			}
		}
	}
}

// P12.1: a store that has no room takes a manifest.
func TestWrittenWithoutRoom(t *testing.T) {
	w := of(t, 3)
	for i := range 3 {
		strike(t, w, api.Fault{Kind: api.Room, Store: i})
	}
	does(t, w, starting(two(3, 3), sample(room, 1)), Best{Stamp: stamp(1, 1), Code: two(3, 3), Body: sample(room, 1)}, api.OK, 12)
	does(t, w, writing(Best{Stamp: stamp(1, 1), Code: two(3, 3)}, "x"), Best{Stamp: stamp(1, 2), Code: two(3, 3), Body: "x"}, api.OK, 12)
}

// P12.1: Init is ErrTwice if any replica is sound, of whatever store, slot, stamp and K, also if others do not answer; one of a store that does not answer is not seen.
func TestInitTwice(t *testing.T) {
	for _, c := range few() {
		for at := range 2 * c.N {
			for _, s := range []api.Stamp{stamp(0, 0), stamp(1, 1), stamp(api.MaxCount, api.MaxCount)} {
				for k := 1; k <= c.N; k++ {
					w := of(t, c.N)
					put(t, w, at/2, []string{"m0", "m1"}[at%2], bytesOf(Best{Stamp: s, Code: two(k, c.N)}))
					refuses(t, w, starting(c, "x"), api.ErrTwice, 2*c.N)
					strikeAll(t, w, (1<<c.N-1)&^(1<<(at/2)), down)
					refuses(t, w, starting(c, "x"), api.ErrTwice, 2*c.N)
					strike(t, w, down(at/2))
					refuses(t, w, starting(c, "x"), api.ErrQuorum, 2*c.N)
				}
			}
		}
	}
}

// P12.1: Init needs all that there are, whichever do not answer: nothing is put.
func TestInitNotAllAnswer(t *testing.T) {
	for _, c := range few() {
		for silent := 1; silent < 1<<c.N; silent++ {
			w := of(t, c.N)
			strikeAll(t, w, silent, down)
			refuses(t, w, starting(c, "x"), api.ErrQuorum, 2*c.N)
			strikeAll(t, w, silent, up)
			does(t, w, starting(c, "x"), Best{Stamp: stamp(1, 1), Code: c, Body: "x"}, api.OK, 4*c.N)
		}
	}
}

// P12.1: Init over what is no sound replica: it takes m0, whatever stands there.
func TestInitOverWrongs(t *testing.T) {
	for what, data := range wrongs() {
		t.Log(what)
		w := of(t, 3)
		b := man(1, 1, "x")
		put(t, w, 0, "m0", data)
		put(t, w, 1, "m1", data)
		put(t, w, 2, "m0", data)
		put(t, w, 2, "m1", data)
		does(t, w, starting(b.Code, "x"), b, api.OK, 12)
		tells(t, w, 0, bytesOf(b), "")
		holds(t, w, 1, "m0", bytesOf(b), "m1", data)
		holds(t, w, 2, "m0", bytesOf(b), "m1", data)
	}
}
