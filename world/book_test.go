package world

import (
	"slices"
	"testing"

	"strongbox/api"
	"strongbox/store"
)

// book is a world by the chapter's words and nothing else, over stores that are tested in their own package.
type book struct {
	stores   []*store.Store
	suspects map[int]int // those that are suspect, as keys
	calls    int
	left     int // -1: no cut is said
	dark     bool
}

func newBook(n int) *book {
	b := &book{suspects: map[int]int{}, left: -1}
	for range n {
		b.stores = append(b.stores, store.New())
	}
	return b
}

func (b *book) has(i int) bool { return i >= 0 && i < len(b.stores) }

// refused counts a call, and says why it isn't done; OK if it is.
func (b *book) refused(i int) api.Errno {
	if !b.has(i) {
		return api.ErrArg
	}
	b.calls++
	if b.left == 0 {
		b.dark = true
	}
	if b.dark {
		return api.ErrCut
	}
	if b.left > 0 {
		b.left--
	}
	return api.OK
}

func (b *book) put(i int, o api.Object) api.Errno {
	if e := b.refused(i); e != api.OK {
		return e
	}
	return b.stores[i].Put(o)
}

func (b *book) get(i int, name string) (string, api.Errno) {
	if e := b.refused(i); e != api.OK {
		return "", e
	}
	return b.stores[i].Get(name)
}

func (b *book) del(i int, name string) api.Errno {
	if e := b.refused(i); e != api.OK {
		return e
	}
	return b.stores[i].Del(name)
}

func (b *book) list(i int) ([]string, api.Errno) {
	if e := b.refused(i); e != api.OK {
		return nil, e
	}
	return b.stores[i].List()
}

func (b *book) sync(i int) api.Errno {
	if e := b.refused(i); e != api.OK {
		return e
	}
	return b.stores[i].Sync()
}

func (b *book) cut(after int) api.Errno {
	if after < 0 {
		return api.ErrArg
	}
	b.left = after
	return api.OK
}

func (b *book) crash(l []api.Survive) {
	for i, s := range b.stores {
		if i < len(l) {
			s.Crash(l[i].Keep)
		} else {
			s.Crash(nil)
		}
	}
	b.dark, b.left = false, -1
}

func (b *book) strike(f api.Fault) api.Errno {
	if !b.has(f.Store) {
		return api.ErrArg
	}
	if e := b.stores[f.Store].Strike(f); e != api.OK {
		return e
	}
	switch f.Kind {
	case api.Wipe, api.Lose, api.Bend, api.Down, api.Refuse:
		b.suspects[f.Store] = 1
	}
	return api.OK
}

func (b *book) rising() []int {
	var all []int
	for i := range b.suspects {
		all = append(all, i)
	}
	slices.Sort(all)
	return all
}

func (b *book) clear() {
	for i, s := range b.stores {
		if s.Sound() {
			delete(b.suspects, i)
		}
	}
}

func (b *book) copy() *book {
	c := &book{suspects: map[int]int{}, calls: b.calls, left: b.left, dark: b.dark}
	for _, s := range b.stores {
		c.stores = append(c.stores, s.Copy())
	}
	for i := range b.suspects {
		c.suspects[i] = 1
	}
	return c
}

// holds fails if a world is otherwise than its book; no call that is counted is asked for it.
func holds(t *testing.T, w *World, b *book) {
	t.Helper()
	if w.N() != len(b.stores) || w.Calls() != b.calls || w.Dark() != b.dark {
		t.Fatalf("N, Calls, Dark: %d, %d, %v, not %d, %d, %v", w.N(), w.Calls(), w.Dark(), len(b.stores), b.calls, b.dark)
	}
	if got := w.Suspects(); !slices.Equal(got, b.rising()) {
		t.Fatalf("Suspects: %v, not %v", got, b.rising())
	}
	for i := -1; i <= len(b.stores); i++ {
		var up bool
		var all []api.Object
		if b.has(i) {
			up, all = b.stores[i].Up(), b.stores[i].Objects()
		}
		if w.Up(i) != up || !slices.Equal(w.Objects(i), all) {
			t.Fatalf("Up, Objects of %d: %v, %.200q, not %v, %.200q", i, w.Up(i), w.Objects(i), up, all)
		}
	}
}

// pair is a world and its book.
type pair struct {
	w *World
	b *book
}

func newPair(t *testing.T, n int) pair {
	t.Helper()
	return pair{of(t, n), newBook(n)}
}

func (p pair) copy() pair { return pair{p.w.Copy(), p.b.copy()} }

// dice are numbers that are the same ones each time.
type dice struct{ x uint64 }

func (d *dice) below(n int) int {
	d.x = d.x*6364136223846793005 + 1442695040888963407
	return int(d.x>>33) % n
}

func (d *dice) name() string { return []string{"a", "b", "m0", "m1", ""}[d.below(5)] }

func (d *dice) data() string { return "0123456789"[:d.below(11)] }

// store is mostly one of n.
func (d *dice) store(n int) int { return d.below(n+2) - 1 }

func (d *dice) survives(n int) []api.Survive {
	l := make([]api.Survive, d.below(n+3))
	for i := range l {
		for range d.below(4) {
			l[i].Keep = append(l[i].Keep, d.below(13)-2)
		}
	}
	return l
}

func (d *dice) fault(n int) api.Fault {
	kinds := []uint8{0, api.Wipe, api.Lose, api.Lose, api.Bend, api.Bend, api.Down, api.Up, api.Up, api.Refuse, api.Room, 8, 255}
	f := api.Fault{Kind: kinds[d.below(len(kinds))], Store: d.store(n), N: d.below(20), At: d.below(12), C: d.below(256)}
	if d.below(10) == 0 {
		f.N = -1 - f.N
	}
	return f
}

// call does one of the calls that are counted, and fails if the two answer otherwise.
func (p pair) call(t *testing.T, d *dice) {
	t.Helper()
	i := d.store(len(p.b.stores))
	switch d.below(6) {
	case 0, 1:
		o := api.Object{Name: d.name(), Data: d.data()}
		same(t, p.w.Put(i, o), p.b.put(i, o))
	case 2:
		name := d.name()
		got, e := p.w.Get(i, name)
		want, we := p.b.get(i, name)
		same(t, got, want)
		same(t, e, we)
	case 3:
		name := d.name()
		same(t, p.w.Del(i, name), p.b.del(i, name))
	case 4:
		got, e := p.w.List(i)
		want, we := p.b.list(i)
		if !slices.Equal(got, want) {
			t.Fatalf("List: %q, not %q", got, want)
		}
		same(t, e, we)
	case 5:
		same(t, p.w.Sync(i), p.b.sync(i))
	}
}

// step does one thing to a pair, and fails if the two answer otherwise.
func (p pair) step(t *testing.T, d *dice) {
	t.Helper()
	switch d.below(20) {
	default:
		p.call(t, d)
	case 0:
		after := d.below(12) - 1
		same(t, p.w.Cut(after), p.b.cut(after))
	case 1:
		l := d.survives(len(p.b.stores))
		same(t, p.w.Crash(l), api.OK)
		p.b.crash(l)
	case 2, 3:
		f := d.fault(len(p.b.stores))
		same(t, p.w.Strike(f), p.b.strike(f))
	case 4:
		p.w.Clear()
		p.b.clear()
	}
}

// P8.1, P8.2: whatever is done, a world is its book; and a copy goes its own way.
func TestAsTheBook(t *testing.T) {
	cuts := 0
	for seed := range 600 {
		d := &dice{uint64(seed)}
		p := newPair(t, 1+seed%api.MaxStores)
		other := p.copy()
		for range 150 {
			switch d.below(16) {
			case 0:
				other = p.copy()
			case 1:
				p, other = other, p
			}
			p.step(t, d)
			holds(t, p.w, p.b)
			holds(t, other.w, other.b)
			if p.b.dark {
				cuts++
			}
		}
	}
	if cuts < 1000 {
		t.Error("the power was gone too rarely:", cuts)
	}
}
