package world

import (
	"math"
	"slices"
	"strconv"
	"testing"

	"strongbox/api"
)

// P8.1: so many calls are done still as the cut says, whichever they are, and the power is gone from the next one on.
func TestCut(t *testing.T) {
	for after := range 8 {
		w := of(t, 2)
		same(t, w.Cut(after), api.OK)
		same(t, w.Dark(), false)
		for k := range after {
			put(t, w, k%2, "n"+strconv.Itoa(k), "1")
			same(t, w.Dark(), false)
		}
		for k := range 3 {
			same(t, w.Put(1, api.Object{Name: "too late"}), api.ErrCut)
			same(t, w.Dark(), true)
			same(t, w.Calls(), after+k+1)
		}
		same(t, len(w.Objects(0))+len(w.Objects(1)), after)
	}
}

// P8.1: each of the five calls takes one off a cut, and each finds the power gone.
func TestCutAtEachCall(t *testing.T) {
	for after := range 6 {
		w := of(t, 1)
		put(t, w, 0, "a", "1")
		same(t, w.Cut(after), api.OK)
		want := all(api.ErrCut)
		copy(want, all(api.OK)[:min(after, 5)])
		if got := asked(w, 0); !slices.Equal(got, want) {
			t.Errorf("cut of %d: %v, not %v", after, got, want)
		}
		same(t, w.Dark(), after < 5)
	}
}

// P8.1: calls that the store refuses take one off a cut as well.
func TestCutAtRefusedCalls(t *testing.T) {
	w := of(t, 2)
	w.Strike(api.Fault{Kind: api.Down, Store: 0})
	same(t, w.Cut(3), api.OK)
	same(t, w.Sync(0), api.ErrDown)
	same(t, w.Put(1, api.Object{}), api.ErrArg)
	same(t, w.Del(1, "a"), api.ErrNone)
	same(t, w.Dark(), false)
	same(t, w.Sync(1), api.ErrCut)
	same(t, w.Dark(), true)
}

// P8.1: a cut that is told anew takes the place of the one ahead of it; one that is refused does not.
func TestCutAnew(t *testing.T) {
	w := of(t, 1)
	same(t, w.Cut(1), api.OK)
	same(t, w.Cut(2), api.OK)
	same(t, w.Sync(0), api.OK)
	same(t, w.Cut(2), api.OK)
	same(t, w.Sync(0), api.OK)
	same(t, w.Sync(0), api.OK)
	same(t, w.Cut(1), api.OK)
	for _, after := range []int{-1, math.MinInt} {
		same(t, w.Cut(after), api.ErrArg)
	}
	same(t, w.Sync(0), api.OK)
	same(t, w.Sync(0), api.ErrCut)

	w = of(t, 1)
	same(t, w.Cut(9), api.OK)
	same(t, w.Cut(0), api.OK)
	same(t, w.Sync(0), api.ErrCut)

	w = of(t, 1)
	same(t, w.Cut(-1), api.ErrArg)
	same(t, w.Cut(math.MaxInt), api.OK)
	for range 100 {
		same(t, w.Sync(0), api.OK)
	}
}

// P8.1, P8.4: a cut does not bring the power back, and is none any more behind a crash.
func TestCutWhileDark(t *testing.T) {
	for _, after := range []int{0, 1, 5} {
		w := darkened(t, 2)
		same(t, w.Cut(after), api.OK)
		same(t, w.Dark(), true)
		for range 8 {
			same(t, w.Sync(0), api.ErrCut)
			same(t, w.Dark(), true)
		}
		same(t, w.Cut(after), api.OK)
		same(t, w.Cut(-1), api.ErrArg)
		same(t, w.Crash(nil), api.OK)
		for range 8 {
			same(t, w.Sync(0), api.OK)
			same(t, w.Dark(), false)
		}
	}
}

// P8.4: while the power is gone no call changes anything but the count, and what was written survives as it was.
func TestNothingChangesWhileDark(t *testing.T) {
	w := of(t, 2)
	put(t, w, 0, "a", "1")
	same(t, w.Sync(0), api.OK)
	put(t, w, 0, "a", "23")
	put(t, w, 0, "b", "45")
	w.Strike(api.Fault{Kind: api.Refuse, Store: 1})
	same(t, w.Cut(0), api.OK)
	for range 3 {
		for i := range 2 {
			if got := asked(w, i); !slices.Equal(got, all(api.ErrCut)) {
				t.Errorf("of store %d: %v", i, got)
			}
		}
		sees(t, w, 0, "a", "23", "b", "45")
		sees(t, w, 1)
		suspects(t, w, 1)
	}
	c := w.Copy()
	same(t, w.Crash(nil), api.OK)
	sees(t, w, 0, "a", "1")
	same(t, w.Put(1, api.Object{Name: "a"}), api.ErrIO)
	same(t, c.Crash([]api.Survive{{Keep: []int{1, 2}}}), api.OK)
	sees(t, c, 0, "a", "2", "b", "45")
}

// written is a world of three stores, each with an object that stands for good and three writes behind it.
func written(t *testing.T) *World {
	t.Helper()
	w := of(t, 3)
	for i := range 3 {
		put(t, w, i, "a", "1")
		same(t, w.Sync(i), api.OK)
		put(t, w, i, "b", "234")
		same(t, w.Del(i, "a"), api.OK)
		put(t, w, i, "c", "567")
	}
	return w
}

// P8.2: of each store that survives which l tells at its place; of those for which it says nothing, nothing.
func TestCrash(t *testing.T) {
	w := written(t)
	for _, dark := range []bool{false, true} {
		start := func() *World {
			c := w.Copy()
			if dark {
				c.Cut(0)
				same(t, c.Sync(0), api.ErrCut)
			}
			return c
		}
		for _, l := range [][]api.Survive{nil, {}, {{}}, {{}, {}, {}}, {{Keep: []int{-1, -1, -1}}}, {{}, {}, {}, {Keep: []int{9, 9, 9}}}} {
			c := start()
			same(t, c.Crash(l), api.OK)
			same(t, c.Dark(), false)
			for i := range 3 {
				sees(t, c, i, "a", "1")
			}
		}
		c := start()
		same(t, c.Crash([]api.Survive{{Keep: []int{2}}, {}, {Keep: []int{-1, 0, api.MaxObject, 7}}, {Keep: []int{1}}}), api.OK)
		sees(t, c, 0, "a", "1", "b", "23")
		sees(t, c, 1, "a", "1")
		sees(t, c, 2, "c", "567")
		same(t, c.Crash([]api.Survive{{Keep: []int{9, 9, 9}}}), api.OK)
		sees(t, c, 0, "a", "1", "b", "23")
		same(t, c.Sync(0), api.OK)
	}
}

// P8.2: behind a crash no cut is said, whether it was at its end or not; counts and suspects are as they were.
func TestBehindACrash(t *testing.T) {
	for _, after := range []int{0, 1, 2, 3} {
		w := of(t, 2)
		w.Strike(api.Fault{Kind: api.Down, Store: 1})
		same(t, w.Cut(after), api.OK)
		w.Sync(0)
		w.Sync(0)
		same(t, w.Dark(), after < 2)
		same(t, w.Crash(nil), api.OK)
		for range 9 {
			same(t, w.Sync(0), api.OK)
		}
		same(t, w.Calls(), 11)
		suspects(t, w, 1)
		same(t, w.Sync(1), api.ErrDown)
		same(t, w.Cut(0), api.OK)
		same(t, w.Sync(0), api.ErrCut)
	}
}

// P8.2: stores that do not answer crash too.
func TestCrashOfOneThatIsDown(t *testing.T) {
	w := written(t)
	w.Strike(api.Fault{Kind: api.Down, Store: 1})
	same(t, w.Crash([]api.Survive{{}, {Keep: []int{1}}}), api.OK)
	sees(t, w, 1, "a", "1", "b", "2")
	same(t, w.Up(1), false)
}

// P8.2: each fault does what it does to a store, to that one alone, with the power and without it; and it is suspect from then on, or not.
func TestFaults(t *testing.T) {
	type row struct {
		f       api.Fault
		seen    []string
		suspect bool
	}
	for _, r := range []row{
		{api.Fault{Kind: api.Wipe}, nil, true},
		{api.Fault{Kind: api.Lose, N: 3}, []string{"b", "234"}, true},
		{api.Fault{Kind: api.Lose, N: 2}, []string{"c", "567"}, true},
		{api.Fault{Kind: api.Bend, N: 0, At: 4, C: 'x'}, []string{"b", "2x4", "c", "567"}, true},
		{api.Fault{Kind: api.Down}, []string{"b", "234", "c", "567"}, true},
		{api.Fault{Kind: api.Up}, []string{"b", "234", "c", "567"}, false},
		{api.Fault{Kind: api.Refuse}, []string{"b", "234", "c", "567"}, true},
		{api.Fault{Kind: api.Room, N: 1}, []string{"b", "234", "c", "567"}, false},
	} {
		for _, dark := range []bool{false, true} {
			w := written(t)
			if dark {
				w.Cut(0)
				w.Sync(0)
			}
			r.f.Store = 1
			same(t, w.Strike(r.f), api.OK)
			same(t, w.Dark(), dark)
			sees(t, w, 0, "b", "234", "c", "567")
			sees(t, w, 1, r.seen...)
			sees(t, w, 2, "b", "234", "c", "567")
			same(t, w.Up(1), r.f.Kind != api.Down)
			if r.suspect {
				suspects(t, w, 1)
			} else {
				suspects(t, w)
			}
		}
	}
}

// P8.2: a fault is one of a store that has no objects, too; and one that changes nothing.
func TestFaultsOfNothing(t *testing.T) {
	for _, kind := range []uint8{api.Wipe, api.Lose, api.Bend} {
		w := of(t, 2)
		same(t, w.Strike(api.Fault{Kind: kind, Store: 1}), api.OK)
		suspects(t, w, 1)
	}
}

// P8.2: what is refused is no fault, and makes no store suspect.
func TestFaultsRefused(t *testing.T) {
	w := written(t)
	for kind := range 256 {
		for _, i := range []int{math.MinInt, -1, 3, math.MaxInt} {
			same(t, w.Strike(api.Fault{Kind: uint8(kind), Store: i}), api.ErrArg)
		}
		if kind < int(api.Wipe) || kind > int(api.Room) {
			same(t, w.Strike(api.Fault{Kind: uint8(kind), Store: 1}), api.ErrArg)
		}
		for _, f := range []api.Fault{{N: -1}, {At: -1}, {C: -1}, {C: 256}} {
			f.Kind, f.Store = uint8(kind), 2
			same(t, w.Strike(f), api.ErrArg)
		}
	}
	suspects(t, w)
	for i := range 3 {
		sees(t, w, i, "b", "234", "c", "567")
		same(t, w.Up(i), true)
	}
	same(t, w.Crash(nil), api.OK)
	sees(t, w, 1, "a", "1")
}

// P8.2: suspects are told rising, each once, in whatever row they were struck.
func TestSuspects(t *testing.T) {
	w := of(t, api.MaxStores)
	for _, i := range []int{11, 3, 7, 3, 0, 11} {
		same(t, w.Strike(api.Fault{Kind: api.Lose, Store: i}), api.OK)
	}
	suspects(t, w, 0, 3, 7, 11)
}

// P8.2: cleared are those that answer and have no refusal ahead; the others stay suspect till they are sound and cleared anew.
func TestClear(t *testing.T) {
	w := of(t, 4)
	w.Strike(api.Fault{Kind: api.Wipe, Store: 0})
	w.Strike(api.Fault{Kind: api.Down, Store: 1})
	w.Strike(api.Fault{Kind: api.Refuse, Store: 2, N: 1})
	w.Strike(api.Fault{Kind: api.Room, Store: 3})
	suspects(t, w, 0, 1, 2)
	w.Clear()
	suspects(t, w, 1, 2)
	w.Strike(api.Fault{Kind: api.Up, Store: 1})
	put(t, w, 2, "a", "1")
	suspects(t, w, 1, 2)
	w.Clear()
	suspects(t, w, 2)
	same(t, w.Put(2, api.Object{Name: "b"}), api.ErrIO)
	suspects(t, w, 2)
	w.Clear()
	suspects(t, w)
	w.Strike(api.Fault{Kind: api.Bend, Store: 2})
	suspects(t, w, 2)
}

// P8.2: clearing and being suspect leave a store's objects and its room as they are; a store that was sound all along stays unsuspected.
func TestClearLeavesStores(t *testing.T) {
	w := written(t)
	w.Strike(api.Fault{Kind: api.Room, Store: 1, N: 6})
	w.Strike(api.Fault{Kind: api.Bend, Store: 1, C: '9'})
	w.Clear()
	suspects(t, w)
	sees(t, w, 1, "b", "934", "c", "567")
	same(t, w.Put(1, api.Object{Name: "d", Data: "1"}), api.ErrFull)
}

// P8.3: what was synced stands behind a crash, whatever survives, if no fault struck and nothing of its name was written behind that.
func TestForGood(t *testing.T) {
	for seed := range 300 {
		d := &dice{uint64(seed)}
		n := 1 + d.below(4)
		w := of(t, n)
		good := make([]map[string]string, n) // of each store what was synced, and not written since
		for i := range good {
			good[i] = map[string]string{}
		}
		for range 120 {
			i, name, data := d.below(n), d.name(), d.data()
			switch d.below(8) {
			case 0, 1, 2:
				if w.Put(i, api.Object{Name: name, Data: data}) == api.OK {
					delete(good[i], name)
				}
			case 3:
				if w.Del(i, name) == api.OK {
					delete(good[i], name)
				}
			case 4, 5:
				if w.Sync(i) == api.OK {
					for _, o := range w.Objects(i) {
						good[i][o.Name] = o.Data
					}
				}
			case 6:
				w.Cut(d.below(5))
			case 7:
				w.Crash(d.survives(n))
				forGood(t, w, good)
			}
		}
	}
}

// forGood fails if an object of a list is not there as it was.
func forGood(t *testing.T, w *World, good []map[string]string) {
	t.Helper()
	for i, objects := range good {
		for name, want := range objects {
			data, e := w.Get(i, name)
			if e != api.OK || data != want {
				t.Fatalf("%q of store %d: %q, %d, not %q", name, i, data, e, want)
			}
		}
	}
}
