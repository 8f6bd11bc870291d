package world

import (
	"math"
	"slices"
	"testing"

	"strongbox/api"
)

// of is a world of n stores.
func of(t *testing.T, n int) *World {
	t.Helper()
	w, e := New(n)
	if e != api.OK || w == nil {
		t.Fatalf("New of %d: %v, %d", n, w, e)
	}
	return w
}

// same fails if what was got is not what is asked for.
func same[A comparable](t *testing.T, got, want A) {
	t.Helper()
	if got != want {
		t.Fatalf("%v, not %v", got, want)
	}
}

func put(t *testing.T, w *World, i int, name, data string) {
	t.Helper()
	same(t, w.Put(i, api.Object{Name: name, Data: data}), api.OK)
}

// sees fails if what is seen of a store is not what texts tell, names and data by turns.
func sees(t *testing.T, w *World, i int, texts ...string) {
	t.Helper()
	var got []string
	for _, o := range w.Objects(i) {
		got = append(got, o.Name, o.Data)
	}
	if !slices.Equal(got, texts) {
		t.Fatalf("seen of %d: %.300q, not %.300q", i, got, texts)
	}
}

func suspects(t *testing.T, w *World, want ...int) {
	t.Helper()
	if got := w.Suspects(); !slices.Equal(got, want) {
		t.Fatalf("Suspects: %v, not %v", got, want)
	}
}

// asked is what each of the five calls answers of a store whose object a is there; they are done one behind the other.
func asked(w *World, i int) []api.Errno {
	_, get := w.Get(i, "a")
	_, list := w.List(i)
	return []api.Errno{get, list, w.Put(i, api.Object{Name: "b", Data: "2"}), w.Del(i, "a"), w.Sync(i)}
}

// all is one answer of each of the five calls.
func all(e api.Errno) []api.Errno { return []api.Errno{e, e, e, e, e} }

// darkened is a world whose power is gone.
func darkened(t *testing.T, n int) *World {
	t.Helper()
	w := of(t, n)
	put(t, w, 0, "a", "1")
	same(t, w.Cut(0), api.OK)
	same(t, w.Sync(0), api.ErrCut)
	same(t, w.Dark(), true)
	return w
}

// The chapter's examples.
func TestExamples(t *testing.T) {
	w := of(t, 1)
	same(t, w.Cut(1), api.OK)
	put(t, w, 0, "a", "1")
	same(t, w.Sync(0), api.ErrCut)
	same(t, w.Dark(), true)
	same(t, w.Crash(nil), api.OK)
	_, e := w.Get(0, "a")
	same(t, e, api.ErrNone)
	same(t, w.Strike(api.Fault{Kind: api.Wipe, Store: 0}), api.OK)
	suspects(t, w, 0)
	w.Clear()
	suspects(t, w)
	same(t, w.Strike(api.Fault{Kind: api.Down, Store: 0}), api.OK)
	w.Clear()
	suspects(t, w, 0)
}

// P8.1: 1 to MaxStores stores, all empty; and no world of any other number.
func TestNew(t *testing.T) {
	for n := 1; n <= api.MaxStores; n++ {
		w := of(t, n)
		holds(t, w, newBook(n))
		same(t, w.Sync(n-1), api.OK)
		same(t, w.Sync(n), api.ErrArg)
	}
	for _, n := range []int{math.MinInt, -1, 0, api.MaxStores + 1, math.MaxInt} {
		if w, e := New(n); w != nil || e != api.ErrArg {
			t.Errorf("New of %d: %v, %d", n, w, e)
		}
	}
}

// P8.1: stores do not see one another.
func TestStoresApart(t *testing.T) {
	w := of(t, api.MaxStores)
	for i := range w.N() {
		put(t, w, i, "a", string(rune('a'+i)))
	}
	same(t, w.Del(3, "a"), api.OK)
	same(t, w.Sync(5), api.OK)
	for i := range w.N() {
		if i != 3 {
			sees(t, w, i, "a", string(rune('a'+i)))
		}
	}
	sees(t, w, 3)
	same(t, w.Crash(nil), api.OK)
	for i := range w.N() {
		if i != 5 {
			sees(t, w, i)
		}
	}
	sees(t, w, 5, "a", "f")
}

// P8.1: what each call answers is the store's answer.
func TestCalls(t *testing.T) {
	w := of(t, 2)
	put(t, w, 1, "b", "22")
	put(t, w, 1, "a", "1")
	data, e := w.Get(1, "b")
	same(t, data, "22")
	same(t, e, api.OK)
	names, e := w.List(1)
	same(t, e, api.OK)
	if !slices.Equal(names, []string{"a", "b"}) {
		t.Errorf("List: %q", names)
	}
	same(t, w.Del(1, "b"), api.OK)
	same(t, w.Sync(1), api.OK)
	sees(t, w, 1, "a", "1")
	same(t, w.Calls(), 6)
}

// P8.1: a call of a store that is none is not counted, and leaves a cut as it is.
func TestNoSuchStore(t *testing.T) {
	w := of(t, 3)
	same(t, w.Cut(5), api.OK)
	for _, i := range []int{math.MinInt, -1, 3, 4, math.MaxInt} {
		if got := asked(w, i); !slices.Equal(got, all(api.ErrArg)) {
			t.Errorf("of store %d: %v", i, got)
		}
	}
	same(t, w.Calls(), 0)
	put(t, w, 2, "a", "1")
	if got := asked(w, 2); !slices.Equal(got, []api.Errno{0, 0, 0, 0, api.ErrCut}) {
		t.Errorf("of the last one: %v", got)
	}
	same(t, w.Calls(), 6)
	if got := asked(w, 3); !slices.Equal(got, all(api.ErrArg)) {
		t.Errorf("of one more, without the power: %v", got)
	}
	same(t, w.Calls(), 6)
}

// P8.1: each call is counted, whether the power is there or not, and whether the store does it or not.
func TestCounted(t *testing.T) {
	w := of(t, 2)
	put(t, w, 0, "a", "1")
	same(t, w.Calls(), 1)
	if got := asked(w, 0); !slices.Equal(got, all(api.OK)) {
		t.Errorf("with the power: %v", got)
	}
	same(t, w.Calls(), 6)
	same(t, w.Strike(api.Fault{Kind: api.Down, Store: 0}), api.OK)
	same(t, w.Calls(), 6)
	if got := asked(w, 0); !slices.Equal(got, all(api.ErrDown)) {
		t.Errorf("of one that does not answer: %v", got)
	}
	same(t, w.Calls(), 11)
	same(t, w.Put(1, api.Object{}), api.ErrArg)
	same(t, w.Del(1, "a"), api.ErrNone)
	same(t, w.Calls(), 13)
	same(t, w.Strike(api.Fault{Kind: api.Room, Store: 1}), api.OK)
	same(t, w.Put(1, api.Object{Name: "a", Data: "1"}), api.ErrFull)
	same(t, w.Strike(api.Fault{Kind: api.Refuse, Store: 1}), api.OK)
	same(t, w.Put(1, api.Object{Name: "a"}), api.ErrIO)
	same(t, w.Calls(), 15)
	same(t, w.Cut(0), api.OK)
	if got := asked(w, 1); !slices.Equal(got, all(api.ErrCut)) {
		t.Errorf("without the power: %v", got)
	}
	same(t, w.Calls(), 20)
}

// P8.1: what is no call is not counted, and takes nothing off a cut.
func TestNotCounted(t *testing.T) {
	w := of(t, 2)
	same(t, w.Cut(1), api.OK)
	w.Strike(api.Fault{Kind: api.Refuse, Store: 1})
	w.Clear()
	w.Suspects()
	w.Up(0)
	w.Objects(0)
	w.Copy().Sync(0)
	w.N()
	w.Dark()
	same(t, w.Calls(), 0)
	same(t, w.Sync(0), api.OK)
	same(t, w.Sync(0), api.ErrCut)
	same(t, w.Crash(nil), api.OK)
	same(t, w.Calls(), 2)
}

// Beside an error each call answers zeros.
func TestZerosBesideErrors(t *testing.T) {
	w := of(t, 1)
	put(t, w, 0, "a", "1")
	look := func(i int, name string, want api.Errno) {
		t.Helper()
		data, e := w.Get(i, name)
		same(t, e, want)
		same(t, data, "")
		if want == api.ErrNone {
			return
		}
		names, e := w.List(i)
		same(t, e, want)
		same(t, len(names), 0)
	}
	look(1, "a", api.ErrArg)
	look(0, "b", api.ErrNone)
	w.Strike(api.Fault{Kind: api.Down})
	look(0, "a", api.ErrDown)
	w.Strike(api.Fault{Kind: api.Up})
	w.Cut(0)
	look(0, "a", api.ErrCut)
}

// Of several errors the first one of the table is answered.
func TestOrderOfErrors(t *testing.T) {
	w := of(t, 1)
	w.Strike(api.Fault{Kind: api.Down})
	w.Cut(0)
	same(t, w.Put(1, api.Object{}), api.ErrArg)
	same(t, w.Dark(), false)
	same(t, w.Put(0, api.Object{}), api.ErrCut)
	same(t, w.Del(0, "a"), api.ErrCut)
	_, e := w.Get(1, "a")
	same(t, e, api.ErrArg)
	_, e = w.Get(0, "a")
	same(t, e, api.ErrCut)
	w.Crash(nil)
	same(t, w.Put(0, api.Object{}), api.ErrArg)
	same(t, w.Put(0, api.Object{Name: "a"}), api.ErrDown)
	same(t, w.Strike(api.Fault{Kind: api.Wipe, Store: 1, N: -1}), api.ErrArg)
	var none *World
	same(t, none.Cut(-1), api.ErrNil)
	same(t, none.Put(-1, api.Object{}), api.ErrNil)
	same(t, none.Strike(api.Fault{Store: -1}), api.ErrNil)
}

// A nil world answers ErrNil, and zeros where there is no error to answer.
func TestNil(t *testing.T) {
	var w *World
	for _, i := range []int{-1, 0, 1} {
		if got := asked(w, i); !slices.Equal(got, all(api.ErrNil)) {
			t.Errorf("of store %d: %v", i, got)
		}
		same(t, w.Up(i), false)
		same(t, len(w.Objects(i)), 0)
		same(t, w.Strike(api.Fault{Kind: api.Wipe, Store: i}), api.ErrNil)
		same(t, w.Cut(i), api.ErrNil)
	}
	data, e := w.Get(0, "a")
	same(t, data, "")
	same(t, e, api.ErrNil)
	same(t, w.Crash(nil), api.ErrNil)
	same(t, w.Crash([]api.Survive{{Keep: []int{1}}}), api.ErrNil)
	w.Clear()
	same(t, w.N(), 0)
	same(t, w.Calls(), 0)
	same(t, w.Dark(), false)
	suspects(t, w)
	if w.Copy() != nil {
		t.Error("Copy of nil is not nil")
	}
}

// R1: a world that New did not make has no stores, and does not panic.
func TestMadeOtherwise(t *testing.T) {
	w := &World{}
	if got := asked(w, 0); !slices.Equal(got, all(api.ErrArg)) {
		t.Errorf("%v", got)
	}
	same(t, w.Cut(0), api.OK)
	same(t, w.Crash([]api.Survive{{}}), api.OK)
	same(t, w.Strike(api.Fault{Kind: api.Wipe}), api.ErrArg)
	w.Clear()
	holds(t, w.Copy(), newBook(0))
}

// P8.2: Up and Objects tell of stores that are, without the power and of stores that do not answer too.
func TestUpAndObjects(t *testing.T) {
	w := darkened(t, 3)
	same(t, w.Strike(api.Fault{Kind: api.Down, Store: 0}), api.OK)
	sees(t, w, 0, "a", "1")
	for i, want := range map[int]bool{math.MinInt: false, -1: false, 0: false, 1: true, 2: true, 3: false, math.MaxInt: false} {
		same(t, w.Up(i), want)
		if i != 0 {
			sees(t, w, i)
		}
	}
	same(t, w.Strike(api.Fault{Kind: api.Up, Store: 0}), api.OK)
	same(t, w.Up(0), true)
}

// P8.2: whatever is done to a copy, or to what it was made of, the other one does not see it.
func TestCopies(t *testing.T) {
	deeds := []func(w *World){
		func(w *World) { w.Put(0, api.Object{Name: "a", Data: "other"}) },
		func(w *World) { w.Put(1, api.Object{Name: "x", Data: "new"}) },
		func(w *World) { w.Del(0, "a") },
		func(w *World) { w.Cut(0); w.Sync(0) },
		func(w *World) { w.Crash(nil) },
		func(w *World) { w.Strike(api.Fault{Kind: api.Wipe, Store: 0}) },
		func(w *World) { w.Strike(api.Fault{Kind: api.Down, Store: 1}) },
		func(w *World) { w.Strike(api.Fault{Kind: api.Bend, Store: 0, C: 'z'}) },
		func(w *World) { w.Clear() },
	}
	for k, deed := range deeds {
		p := newPair(t, 3)
		put(t, p.w, 0, "a", "1")
		same(t, p.b.put(0, api.Object{Name: "a", Data: "1"}), api.OK)
		f := api.Fault{Kind: api.Lose, Store: 2}
		same(t, p.w.Strike(f), p.b.strike(f))
		copied := p.copy()
		holds(t, copied.w, copied.b)
		if k%2 == 0 {
			deed(copied.w)
			holds(t, p.w, p.b)
		} else {
			deed(p.w)
			holds(t, copied.w, copied.b)
		}
	}
}

// P8.2: a copy has the cut, the power, the count and the suspects of what it was made of.
func TestCopyHasAll(t *testing.T) {
	w := of(t, 2)
	same(t, w.Cut(2), api.OK)
	same(t, w.Sync(0), api.OK)
	w.Strike(api.Fault{Kind: api.Refuse, Store: 1})
	for _, one := range []*World{w.Copy(), w} {
		same(t, one.Calls(), 1)
		suspects(t, one, 1)
		same(t, one.Put(1, api.Object{Name: "a"}), api.ErrIO)
		same(t, one.Sync(0), api.ErrCut)
		same(t, one.Copy().Dark(), true)
		same(t, one.Copy().Sync(1), api.ErrCut)
	}
}

// R3: what is handed in is not changed and not kept, what is handed out is not lent.
func TestMemory(t *testing.T) {
	w := of(t, 2)
	put(t, w, 0, "a", "123")
	put(t, w, 0, "b", "456")
	same(t, w.Sync(0), api.OK)
	w.Strike(api.Fault{Kind: api.Lose, Store: 0, N: 7})
	put(t, w, 0, "b", "789")
	room := []int{2, 7, 7}
	l := []api.Survive{{Keep: room[:1]}, {}, {Keep: []int{9}}}[:1]
	c := w.Copy()
	same(t, c.Crash(l), api.OK)
	sees(t, c, 0, "a", "123", "b", "78")
	if !slices.Equal(room, []int{2, 7, 7}) || len(l) != 1 || !slices.Equal(l[:3][2].Keep, []int{9}) {
		t.Error("what was handed in is another one:", room, l[:3])
	}
	room[0] = 0
	sees(t, c, 0, "a", "123", "b", "78")

	w.Strike(api.Fault{Kind: api.Down, Store: 1})
	for range 2 {
		names, _ := w.List(0)
		objects, rising := w.Objects(0), w.Suspects()
		if !slices.Equal(names, []string{"a", "b"}) || !slices.Equal(rising, []int{0, 1}) {
			t.Fatalf("List, Suspects: %q, %v", names, rising)
		}
		sees(t, w, 0, "a", "123", "b", "789")
		names[0], objects[0], rising[0] = "x", api.Object{}, 5
		_, _, _ = append(names, "y"), append(objects, api.Object{}), append(rising, 6)
	}
}
