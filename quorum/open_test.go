package quorum

import (
	"testing"

	"strongbox/api"
	"strongbox/world"
)

// stands fails if a store has not just that for good in its slots.
func stands(t *testing.T, w *world.World, i int, m0, m1 string) {
	t.Helper()
	behind := w.Copy()
	same(t, behind.Crash(nil), api.OK)
	tells(t, behind, i, m0, m1)
}

// P12.1: Open, of all codes: the newest under the next epoch, that one and the old one for good on all stores.
func TestOpened(t *testing.T) {
	for _, c := range codes() {
		w, b := begun(t, c, "x", "y")
		for epoch := 2; epoch < 5; epoch++ {
			next := b
			next.Stamp.Epoch = epoch
			does(t, w, opening(), next, api.OK, 5*c.N)
			for i := range c.N {
				m0, m1 := bytesOf(next), bytesOf(b)
				if epoch%2 == 1 {
					m0, m1 = m1, m0
				}
				tells(t, w, i, m0, m1)
				stands(t, w, i, m0, m1)
			}
			does(t, w, reading(), next, api.OK, 2*c.N)
			b = next
		}
	}
}

// P12.1: those that have the newest in neither slot, whichever they are, get it, and then the next one beside it; it stands for good on all.
func TestOpenedWhereItLacks(t *testing.T) {
	for _, c := range few() {
		for lack := range 1<<c.N - 1 {
			old, b := Best{Stamp: stamp(1, 1), Code: c, Body: "old"}, Best{Stamp: stamp(1, 2), Code: c, Body: "b"}
			w := of(t, c.N)
			for i := range c.N {
				if in(lack, i) {
					lay(t, w, i, old, Best{})
				} else {
					lay(t, w, i, old, b)
				}
			}
			next := b
			next.Stamp.Epoch = 2
			does(t, w, opening(), next, api.OK, 5*c.N+ones(lack))
			for i := range c.N {
				tells(t, w, i, bytesOf(next), bytesOf(b))
				stands(t, w, i, bytesOf(next), bytesOf(b))
			}
		}
	}
}

// P12.1: where the newest stands, but not for good, it does once it is opened.
func TestOpenedNotSynced(t *testing.T) {
	c := two(2, 3)
	for which := 1; which < 8; which++ {
		w, old := begun(t, c, "old")
		b := man(1, 2, "b")
		for i := range 3 {
			if in(which, i) {
				same(t, w.Put(i, api.Object{Name: "m1", Data: bytesOf(b)}), api.OK)
			}
		}
		// The puts and the syncs ahead of the next epoch's puts: behind them the power goes.
		lack := 3 - ones(which)
		same(t, w.Cut(6+3+lack), api.OK)
		refusesCut(t, w, opening())
		same(t, w.Crash(nil), api.OK)
		for i := range 3 {
			tells(t, w, i, bytesOf(old), bytesOf(b))
		}
	}
}

// refusesCut fails if a call does not find the power gone, or tells anything.
func refusesCut(t *testing.T, w *world.World, c call) {
	t.Helper()
	got, e := c.do(w)
	if got != (Best{}) || e != api.ErrCut {
		t.Fatalf("%s: %s, %d", c.name, brief(got), e)
	}
}

// P12.1: an epoch of MaxCount can't be opened: nothing is put, nothing synced; one less can.
func TestLastEpoch(t *testing.T) {
	for _, gen := range []int{0, 7, api.MaxCount} {
		w := of(t, 3)
		b := man(api.MaxCount, gen, "x")
		lay(t, w, 1, man(1, 1, "y"), b)
		same(t, w.Put(2, api.Object{Name: "m0", Data: "not synced"}), api.OK)
		refuses(t, w, opening(), api.ErrTooLarge, 6)
		does(t, w, reading(), b, api.OK, 6)
		// Too few answer: that counts first.
		strike(t, w, down(0))
		refuses(t, w, opening(), api.ErrTooLarge, 6)
		strike(t, w, down(2))
		refuses(t, w, opening(), api.ErrQuorum, 6)

		w = of(t, 3)
		lay(t, w, 1, man(api.MaxCount-1, gen, "x"), Best{})
		does(t, w, opening(), b, api.OK, 6+3+2+6)
		refuses(t, w, opening(), api.ErrTooLarge, 6)
	}
	// Fewer than K answer, though N - K + 1 do.
	w := of(t, 5)
	m := Best{Stamp: stamp(api.MaxCount, 1), Code: two(4, 5), Body: "x"}
	lay(t, w, 0, m, Best{})
	strikeAll(t, w, 0b11100, down)
	refuses(t, w, opening(), api.ErrQuorum, 10)
	strikeAll(t, w, 0b11100, up)
	refuses(t, w, opening(), api.ErrTooLarge, 10)
}

// P12.1: whichever stores refuse to take the newest: if K have it, it is opened; of fewer it is ErrIO, and nothing of the next epoch is put. Stores that refused are synced, too.
func TestRefusedTheNewest(t *testing.T) {
	for _, c := range few() {
		b := Best{Stamp: stamp(3, 2), Code: c, Body: "b"}
		next := b
		next.Stamp.Epoch = 4
		for refuse := range 1<<c.N - 1 {
			w := of(t, c.N)
			for i := range c.N {
				if !in(refuse, i) {
					lay(t, w, i, b, Best{})
				}
				same(t, w.Put(i, api.Object{Name: "a", Data: "not synced"}), api.OK)
			}
			strikeAll(t, w, refuse, func(i int) api.Fault { return refusing(i, 0) })
			have := c.N - ones(refuse)
			if have < c.K {
				does(t, w, opening(), Best{}, api.ErrIO, 3*c.N+ones(refuse))
			} else {
				does(t, w, opening(), next, api.OK, 5*c.N+ones(refuse))
			}
			same(t, w.Crash(nil), api.OK)
			for i := range c.N {
				want := []string{"a", "not synced"}
				switch {
				case in(refuse, i) && have >= c.K:
					want = append(want, "m0", bytesOf(next))
				case !in(refuse, i) && have >= c.K:
					want = append(want, "m0", bytesOf(b), "m1", bytesOf(next))
				case !in(refuse, i):
					want = append(want, "m0", bytesOf(b))
				}
				holds(t, w, i, want...)
			}
			if have < c.K {
				does(t, w, opening(), next, api.OK, 5*c.N+ones(refuse))
			}
		}
	}
}

// P12.1: whichever stores refuse the next epoch's: if K have taken it, it is opened; of fewer it is ErrIO, and what was put stays.
func TestRefusedTheNext(t *testing.T) {
	for _, c := range few() {
		for refuse := range 1 << c.N {
			w, b := begun(t, c, "b")
			strikeAll(t, w, refuse, func(i int) api.Fault { return refusing(i, 0) })
			next := b
			next.Stamp.Epoch = 2
			if c.N-ones(refuse) < c.K {
				does(t, w, opening(), Best{}, api.ErrIO, 5*c.N)
			} else {
				does(t, w, opening(), next, api.OK, 5*c.N)
			}
			for i := range c.N {
				m1 := bytesOf(next)
				if in(refuse, i) {
					m1 = ""
				}
				tells(t, w, i, bytesOf(b), m1)
				stands(t, w, i, bytesOf(b), m1)
			}
		}
	}
}

// P12.1: those that take the newest may refuse the next one: the ones that have it and the ones that have taken the next one are counted apart.
func TestRefusedBehindTheNewest(t *testing.T) {
	w := of(t, 3)
	b := man(1, 2, "b")
	lay(t, w, 0, b, Best{})
	strike(t, w, refusing(1, 1))
	strike(t, w, refusing(2, 0))
	does(t, w, opening(), man(2, 2, "b"), api.OK, 6+5+6)
	tells(t, w, 1, bytesOf(b), "")
	tells(t, w, 2, bytesOf(man(2, 2, "b")), "")

	w = of(t, 3)
	lay(t, w, 0, b, Best{})
	strike(t, w, refusing(1, 1))
	strike(t, w, refusing(2, 1))
	does(t, w, opening(), Best{}, api.ErrIO, 6+5+6)
	tells(t, w, 0, bytesOf(b), bytesOf(man(2, 2, "b")))
	tells(t, w, 1, bytesOf(b), "")
	tells(t, w, 2, bytesOf(b), "")
}

// P12.1: a store that has another one of the newest's stamp has it not: it is put there, too.
func TestOpenedBesideAnother(t *testing.T) {
	for _, other := range []Best{man(1, 2, "other"), {Stamp: stamp(1, 2), Code: two(3, 3), Body: "b"}} {
		w := of(t, 3)
		b := man(1, 2, "b")
		lay(t, w, 0, b, Best{})
		lay(t, w, 1, other, Best{})
		lay(t, w, 2, man(1, 1, "a"), other)
		same(t, w.Cut(6+5), api.OK)
		refusesCut(t, w, opening())
		same(t, w.Crash(nil), api.OK)
		tells(t, w, 0, bytesOf(b), "")
		tells(t, w, 1, bytesOf(other), bytesOf(b))
		tells(t, w, 2, bytesOf(b), bytesOf(other))
		does(t, w, opening(), man(2, 2, "b"), api.OK, 15)
	}
}
