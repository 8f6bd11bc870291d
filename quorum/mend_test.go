package quorum

import (
	"testing"

	"strongbox/api"
)

// count is how Bad's number is told by a call.
func count(n int) Best { return Best{Stamp: stamp(0, n)} }

// P12.2: a store has a manifest, if it is in either slot, whatever is in the other one; all of stamp, code and body are asked for.
func TestHas(t *testing.T) {
	base := man(2, 3, "base")
	others := []Best{
		{}, man(2, 4, "base"), man(2, 2, "base"), man(3, 3, "base"), man(1, 3, "base"), man(2, 3, "bas"), man(2, 3, "base\x00"), man(2, 3, ""),
		{Stamp: base.Stamp, Code: two(1, 3), Body: "base"}, {Stamp: base.Stamp, Code: two(3, 3), Body: "base"}, {Stamp: base.Stamp, Code: two(2, 4), Body: "base"},
	}
	for at := range 3 {
		for _, a := range others {
			for _, b := range append(others, base) {
				for _, turned := range []bool{false, true} {
					m0, m1 := a, b
					if turned {
						m0, m1 = b, a
					}
					w := of(t, 3)
					lay(t, w, at, m0, m1)
					bad := 3
					if b == base {
						bad = 2
					}
					does(t, w, counting(base), count(bad), api.OK, 6)
					had := w.Objects(at)
					does(t, w, mending(base), Best{}, api.OK, 6+2*bad)
					if b == base {
						same(t, len(w.Objects(at)), len(had))
						for i, o := range had {
							same(t, w.Objects(at)[i], o)
						}
					}
					does(t, w, counting(base), count(0), api.OK, 6)
					does(t, w, mending(base), Best{}, api.OK, 6)
				}
			}
		}
	}
}

// P12.2: wrong bytes are no replica: they are counted, and put over.
func TestBadAndMendOverWrongs(t *testing.T) {
	base := man(1, 1, "body")
	for what, data := range wrongs() {
		t.Log(what)
		w, _ := begun(t, base.Code, "body")
		put(t, w, 1, "m0", data)
		put(t, w, 2, "m1", data)
		does(t, w, counting(base), count(1), api.OK, 6)
		does(t, w, mending(base), Best{}, api.OK, 8)
		tells(t, w, 0, bytesOf(base), "")
		tells(t, w, 1, bytesOf(base), "")
		stands(t, w, 1, bytesOf(base), "")
		holds(t, w, 2, "m0", bytesOf(base), "m1", data)
	}
}

// P12.2: whichever stores lack it: so many are bad; all get it for good, those that had it are neither written nor synced.
func TestMended(t *testing.T) {
	for _, c := range few() {
		for lack := range 1 << c.N {
			old, b := Best{Stamp: stamp(1, 1), Code: c, Body: "old"}, Best{Stamp: stamp(1, 2), Code: c, Body: "b"}
			w := of(t, c.N)
			for i := range c.N {
				lay(t, w, i, old, Best{})
				if !in(lack, i) {
					same(t, w.Put(i, api.Object{Name: "m1", Data: bytesOf(b)}), api.OK)
					strike(t, w, refusing(i, 0))
				}
			}
			does(t, w, counting(b), count(ones(lack)), api.OK, 2*c.N)
			does(t, w, mending(b), Best{}, api.OK, 2*c.N+2*ones(lack))
			does(t, w, counting(b), Best{}, api.OK, 2*c.N)
			for i := range c.N {
				tells(t, w, i, bytesOf(old), bytesOf(b))
				if in(lack, i) {
					stands(t, w, i, bytesOf(old), bytesOf(b))
				} else {
					stands(t, w, i, bytesOf(old), "")
					same(t, w.Put(i, api.Object{Name: "a"}), api.ErrIO)
				}
			}
			was := w.Copy()
			does(t, w, mending(b), Best{}, api.OK, 2*c.N)
			alike(t, w, was)
		}
	}
}

// P12.2: whichever stores do not answer: they are bad, be it there or not; the others get it, and it is ErrIO, though K have it, and though no store is left.
func TestMendNotAllAnswer(t *testing.T) {
	for _, c := range few() {
		for silent := 1; silent < 1<<c.N; silent++ {
			w, b := begun(t, c, "x")
			strike(t, w, wipe(c.N-1))
			strikeAll(t, w, silent, down)
			bad, calls := ones(silent), 2*c.N
			if !in(silent, c.N-1) {
				bad++
				calls += 2
			}
			does(t, w, counting(b), count(bad), api.OK, 2*c.N)
			does(t, w, mending(b), Best{}, api.ErrIO, calls)
			does(t, w, counting(b), count(ones(silent)), api.OK, 2*c.N)
			refuses(t, w, mending(b), api.ErrIO, 2*c.N)
			strikeAll(t, w, silent, up)
			does(t, w, mending(b), Best{}, api.OK, 4*c.N+2-calls)
			for i := range c.N {
				stands(t, w, i, bytesOf(b), "")
			}
		}
	}
}

// P12.2: whichever stores refuse it: the others get it, and it is ErrIO, be there K or not; stores that refused are synced, too.
func TestMendRefused(t *testing.T) {
	for _, c := range few() {
		for refuse := 1; refuse < 1<<c.N; refuse++ {
			w := of(t, c.N)
			b := Best{Stamp: stamp(1, 2), Code: c, Body: "x"}
			for i := range c.N {
				same(t, w.Put(i, api.Object{Name: "a", Data: "not synced"}), api.OK)
			}
			strikeAll(t, w, refuse, func(i int) api.Fault { return refusing(i, 0) })
			does(t, w, mending(b), Best{}, api.ErrIO, 4*c.N)
			does(t, w, counting(b), count(ones(refuse)), api.OK, 2*c.N)
			same(t, w.Crash(nil), api.OK)
			for i := range c.N {
				want := []string{"a", "not synced"}
				if !in(refuse, i) {
					want = append(want, "m0", bytesOf(b))
				}
				holds(t, w, i, want...)
			}
			does(t, w, mending(b), Best{}, api.OK, 2*c.N+2*ones(refuse))
		}
	}
}

// P12.2: no store has a manifest that may not be, or that is of another number of stores.
func TestBadOfWrongBases(t *testing.T) {
	w, b := begun(t, two(2, 3), "x")
	for _, c := range wrongCodes(3) {
		does(t, w, counting(Best{Stamp: b.Stamp, Code: c, Body: "x"}), count(3), api.OK, 6)
	}
	for _, n := range wrongCounts() {
		does(t, w, counting(man(n, 1, "x")), count(3), api.OK, 6)
		does(t, w, counting(man(1, n, "x")), count(3), api.OK, 6)
	}
	does(t, w, counting(Best{}), count(3), api.OK, 6)
	does(t, w, counting(man(1, 1, sample(room+1, 1))), count(3), api.OK, 6)
	foreign := Best{Stamp: stamp(1, 1), Code: two(2, 4), Body: "x"}
	for i := range 3 {
		put(t, w, i, "m1", bytesOf(foreign))
	}
	does(t, w, counting(foreign), count(3), api.OK, 6)
	does(t, w, counting(b), Best{}, api.OK, 6)
}

// noBytes are manifests that may not be, or are too large, for a world of n stores.
func noBytes(n int) []Best {
	huge := sample(room+1, 1)
	all := []Best{{}, {Body: "x"}, {Stamp: stamp(1, 1), Body: huge}, {Stamp: stamp(1, 1), Code: two(1, most+1), Body: "x"}}
	for _, c := range wrongCodes(n) {
		if c.K < 1 || c.K > c.N || c.N > most {
			all = append(all, Best{Stamp: stamp(1, 1), Code: c, Body: "x"}, Best{Stamp: stamp(1, 1), Code: c, Body: huge})
		}
	}
	for _, count := range wrongCounts() {
		for _, s := range []api.Stamp{stamp(count, 1), stamp(1, count), stamp(count, count)} {
			all = append(all, Best{Stamp: s, Code: two(1, n), Body: "x"})
		}
	}
	for _, size := range []int{room + 1, room + 2, api.MaxObject, 3 * api.MaxObject} {
		all = append(all, Best{Stamp: stamp(1, 1), Code: two(1, n), Body: sample(size, 1)})
	}
	return all
}

// P12.2: what has no bytes is taken by none: the slots are got, nothing is put and nothing synced, and it is ErrIO, whatever stands there, and though all answer; without the power it is ErrCut, as of any other.
func TestMendOfNoBytes(t *testing.T) {
	for n := 1; n <= most; n++ {
		bare, full := of(t, n), of(t, n)
		for i := range n {
			lay(t, full, i, Best{Stamp: stamp(1, 1), Code: two(1, n), Body: "x"}, Best{})
			same(t, full.Put(i, api.Object{Name: "m1", Data: "not synced"}), api.OK)
			strike(t, full, refusing(i, 0))
		}
		part, gone := bare.Copy(), bare.Copy()
		strike(t, part, down(n-1))
		darken(t, gone)
		for _, b := range noBytes(n) {
			refuses(t, bare, mending(b), api.ErrIO, 2*n)
			refuses(t, full, mending(b), api.ErrIO, 2*n)
			refuses(t, part, mending(b), api.ErrIO, 2*n)
			refuses(t, gone, mending(b), api.ErrCut, 1)
		}
		for i := range n {
			same(t, full.Put(i, api.Object{Name: "a"}), api.ErrIO)
		}
	}
}

// P12.2: the power goes at some call by which the slots are got: ErrCut, though nothing could be put.
func TestMendOfNoBytesCut(t *testing.T) {
	for after := range 7 {
		for _, b := range []Best{{}, {Stamp: stamp(1, 1), Code: two(4, 3)}, man(1, 1, sample(room+1, 1))} {
			w := of(t, 3)
			w.Cut(after)
			if after < 6 {
				refuses(t, w, mending(b), api.ErrCut, after+1)
			} else {
				refuses(t, w, mending(b), api.ErrIO, 6)
			}
		}
	}
}

// P12.2: the inputs that were told: no store of two takes what has no bytes; one store without the power; one store takes a manifest of two.
func TestMendAsTold(t *testing.T) {
	for _, b := range []Best{{}, {Stamp: stamp(1, 1), Code: two(3, 2)}, {Stamp: stamp(1, 1), Code: two(1, 2), Body: sample(65536, 1)}} {
		w := of(t, 2)
		refuses(t, w, mending(b), api.ErrIO, 4)
		holds(t, w, 0)
		holds(t, w, 1)
	}
	w := of(t, 1)
	w.Cut(0)
	same(t, Mend(w, Best{}), api.ErrCut)
	w = of(t, 1)
	b := Best{Stamp: stamp(1, 1), Code: two(1, 2), Body: "x"}
	same(t, Mend(w, b), api.OK)
	holds(t, w, 0, "m0", bytesOf(b))
}

// P12.2: a manifest of another number of stores is put for good to all that answer, each time anew, since no replica that is sound here is its.
func TestMendOfAnotherN(t *testing.T) {
	for n := 1; n <= most; n++ {
		for _, c := range codes() {
			if c.N == n {
				continue
			}
			b := Best{Stamp: stamp(2, 3), Code: c, Body: "x"}
			w := of(t, n)
			for range 2 {
				does(t, w, mending(b), Best{}, api.OK, 4*n)
				does(t, w, counting(b), count(n), api.OK, 2*n)
				for i := range n {
					tells(t, w, i, bytesOf(b), "")
					stands(t, w, i, bytesOf(b), "")
				}
			}
			strike(t, w, down(n-1))
			does(t, w, mending(b), Best{}, api.ErrIO, 4*n-2)
		}
	}
}

// P12.2: which slot a manifest of another number of stores takes: that of the same stamp stays, as ahead of any other.
func TestSlotOfAnotherN(t *testing.T) {
	b := Best{Stamp: stamp(2, 3), Code: two(2, 4), Body: "base"}
	for _, s := range slotCases() {
		t.Log(s.name)
		w := holding(t, 1, s)
		does(t, w, mending(b), Best{}, api.OK, 12)
		m0, m1 := s.put(bytesOf(b))
		tells(t, w, 0, bytesOf(b), "")
		tells(t, w, 1, m0, m1)
		tells(t, w, 2, bytesOf(b), "")
	}
}

// P12.2: whichever stores refuse a manifest of another number of stores, or do not answer: the others get it, and it is ErrIO.
func TestMendOfAnotherNRefused(t *testing.T) {
	b := man(1, 1, "x")
	for _, n := range []int{1, 2, 4, 5} {
		for which := 1; which < 1<<n; which++ {
			w := of(t, n)
			strikeAll(t, w, which, func(i int) api.Fault { return refusing(i, 0) })
			does(t, w, mending(b), Best{}, api.ErrIO, 4*n)
			for i := range n {
				if in(which, i) {
					holds(t, w, i)
				} else {
					stands(t, w, i, bytesOf(b), "")
				}
			}
			strikeAll(t, w, which, down)
			does(t, w, mending(b), Best{}, api.ErrIO, 4*n-2*ones(which))
		}
	}
}
