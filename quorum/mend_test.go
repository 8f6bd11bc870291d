package quorum

import (
	"testing"

	"strongbox/api"
)

// count is how Bad's number is told by a call.
func count(n int) Best { return Best{Stamp: stamp(0, n)} }

// P12.2: a store has a manifest, if it is in either slot, whatever is in the other one; all of stamp, code and body are asked for.
func TestHas(t *testing.T) {
	base := man(2, 3, "base")
	others := []Best{
		{}, man(2, 4, "base"), man(2, 2, "base"), man(3, 3, "base"), man(1, 3, "base"), man(2, 3, "bas"), man(2, 3, "base\x00"), man(2, 3, ""),
		{Stamp: base.Stamp, Code: two(1, 3), Body: "base"}, {Stamp: base.Stamp, Code: two(3, 3), Body: "base"}, {Stamp: base.Stamp, Code: two(2, 4), Body: "base"},
	}
	for at := range 3 {
		for _, a := range others {
			for _, b := range append(others, base) {
				for _, turned := range []bool{false, true} {
					m0, m1 := a, b
					if turned {
						m0, m1 = b, a
					}
					w := of(t, 3)
					lay(t, w, at, m0, m1)
					bad := 3
					if b == base {
						bad = 2
					}
					does(t, w, counting(base), count(bad), api.OK, 6)
					had := w.Objects(at)
					does(t, w, mending(base), Best{}, api.OK, 6+2*bad)
					if b == base {
						same(t, len(w.Objects(at)), len(had))
						for i, o := range had {
							same(t, w.Objects(at)[i], o)
						}
					}
					does(t, w, counting(base), count(0), api.OK, 6)
					does(t, w, mending(base), Best{}, api.OK, 6)
				}
			}
		}
	}
}

// P12.2: wrong bytes are no replica: they are counted, and put over.
func TestBadAndMendOverWrongs(t *testing.T) {
	base := man(1, 1, "body")
	for what, data := range wrongs() {
		t.Log(what)
		w, _ := begun(t, base.Code, "body")
		put(t, w, 1, "m0", data)
		put(t, w, 2, "m1", data)
		does(t, w, counting(base), count(1), api.OK, 6)
		does(t, w, mending(base), Best{}, api.OK, 8)
		tells(t, w, 0, bytesOf(base), "")
		tells(t, w, 1, bytesOf(base), "")
		stands(t, w, 1, bytesOf(base), "")
		holds(t, w, 2, "m0", bytesOf(base), "m1", data)
	}
}

// P12.2: whichever stores lack it: so many are bad; all get it for good, those that had it are neither written nor synced.
func TestMended(t *testing.T) {
	for _, c := range few() {
		for lack := range 1 << c.N {
			old, b := Best{Stamp: stamp(1, 1), Code: c, Body: "old"}, Best{Stamp: stamp(1, 2), Code: c, Body: "b"}
			w := of(t, c.N)
			for i := range c.N {
				lay(t, w, i, old, Best{})
				if !in(lack, i) {
					same(t, w.Put(i, api.Object{Name: "m1", Data: bytesOf(b)}), api.OK)
					strike(t, w, refusing(i, 0))
				}
			}
			does(t, w, counting(b), count(ones(lack)), api.OK, 2*c.N)
			does(t, w, mending(b), Best{}, api.OK, 2*c.N+2*ones(lack))
			does(t, w, counting(b), Best{}, api.OK, 2*c.N)
			for i := range c.N {
				tells(t, w, i, bytesOf(old), bytesOf(b))
				if in(lack, i) {
					stands(t, w, i, bytesOf(old), bytesOf(b))
				} else {
					stands(t, w, i, bytesOf(old), "")
					same(t, w.Put(i, api.Object{Name: "a"}), api.ErrIO)
				}
			}
			was := w.Copy()
			does(t, w, mending(b), Best{}, api.OK, 2*c.N)
			alike(t, w, was)
		}
	}
}

// P12.2: whichever stores do not answer: they are bad, be it there or not; the others get it, and it is ErrIO, though K have it, and though no store is left.
func TestMendNotAllAnswer(t *testing.T) {
	for _, c := range few() {
		for silent := 1; silent < 1<<c.N; silent++ {
			w, b := begun(t, c, "x")
			strike(t, w, wipe(c.N-1))
			strikeAll(t, w, silent, down)
			bad, calls := ones(silent), 2*c.N
			if !in(silent, c.N-1) {
				bad++
				calls += 2
			}
			does(t, w, counting(b), count(bad), api.OK, 2*c.N)
			does(t, w, mending(b), Best{}, api.ErrIO, calls)
			does(t, w, counting(b), count(ones(silent)), api.OK, 2*c.N)
			refuses(t, w, mending(b), api.ErrIO, 2*c.N)
			strikeAll(t, w, silent, up)
			does(t, w, mending(b), Best{}, api.OK, 4*c.N+2-calls)
			for i := range c.N {
				stands(t, w, i, bytesOf(b), "")
			}
		}
	}
}

// P12.2: whichever stores refuse it: the others get it, and it is ErrIO, be there K or not; stores that refused are synced, too.
func TestMendRefused(t *testing.T) {
	for _, c := range few() {
		for refuse := 1; refuse < 1<<c.N; refuse++ {
			w := of(t, c.N)
			b := Best{Stamp: stamp(1, 2), Code: c, Body: "x"}
			for i := range c.N {
				same(t, w.Put(i, api.Object{Name: "a", Data: "not synced"}), api.OK)
			}
			strikeAll(t, w, refuse, func(i int) api.Fault { return refusing(i, 0) })
			does(t, w, mending(b), Best{}, api.ErrIO, 4*c.N)
			does(t, w, counting(b), count(ones(refuse)), api.OK, 2*c.N)
			same(t, w.Crash(nil), api.OK)
			for i := range c.N {
				want := []string{"a", "not synced"}
				if !in(refuse, i) {
					want = append(want, "m0", bytesOf(b))
				}
				holds(t, w, i, want...)
			}
			does(t, w, mending(b), Best{}, api.OK, 2*c.N+2*ones(refuse))
		}
	}
}

// P12.2: no store has a manifest that may not be, or that is of another number of stores.
func TestBadOfWrongBases(t *testing.T) {
	w, b := begun(t, two(2, 3), "x")
	for _, c := range wrongCodes(3) {
		does(t, w, counting(Best{Stamp: b.Stamp, Code: c, Body: "x"}), count(3), api.OK, 6)
	}
	for _, n := range wrongCounts() {
		does(t, w, counting(man(n, 1, "x")), count(3), api.OK, 6)
		does(t, w, counting(man(1, n, "x")), count(3), api.OK, 6)
	}
	does(t, w, counting(Best{}), count(3), api.OK, 6)
	does(t, w, counting(man(1, 1, sample(room+1, 1))), count(3), api.OK, 6)
	foreign := Best{Stamp: stamp(1, 1), Code: two(2, 4), Body: "x"}
	for i := range 3 {
		put(t, w, i, "m1", bytesOf(foreign))
	}
	does(t, w, counting(foreign), count(3), api.OK, 6)
	refuses(t, w, mending(foreign), api.ErrArg, 0)
	does(t, w, counting(b), Best{}, api.OK, 6)
}
