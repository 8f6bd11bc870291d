package store

import (
	"slices"
	"sort"
	"strings"
	"testing"

	"strongbox/api"
)

// line is a write in a book: a put, or a del.
type line struct {
	del        bool
	name, data string
}

// book is a store by the chapter's words and nothing else: what stands for good, and the writes behind it, which are gone through anew each time.
type book struct {
	good   map[string]string
	lines  []line
	down   bool
	refuse int // -1: none
	room   int // -1: none
}

func newBook() *book { return &book{good: map[string]string{}, refuse: -1, room: -1} }

func (b *book) seen() map[string]string {
	m := map[string]string{}
	for name, data := range b.good {
		m[name] = data
	}
	for _, l := range b.lines {
		if l.del {
			delete(m, l.name)
		} else {
			m[l.name] = l.data
		}
	}
	return m
}

func (b *book) names() []string {
	var all []string
	for name := range b.seen() {
		all = append(all, name)
	}
	sort.Strings(all)
	return all
}

// tried counts a write, and says whether it is refused.
func (b *book) tried() bool {
	if b.refuse < 0 {
		return false
	}
	b.refuse--
	return b.refuse == -1
}

func (b *book) put(o api.Object) api.Errno {
	if o.Name == "" || len(o.Name) > 80 || len(o.Data) > 65536 {
		return api.ErrArg
	}
	if b.down {
		return api.ErrDown
	}
	then, sum := b.seen(), 0
	then[o.Name] = o.Data
	delete(then, "m0")
	delete(then, "m1")
	for _, data := range then {
		sum += len(data)
	}
	if o.Name != "m0" && o.Name != "m1" && b.room >= 0 && sum > b.room {
		return api.ErrFull
	}
	if b.tried() {
		return api.ErrIO
	}
	b.lines = append(b.lines, line{name: o.Name, data: o.Data})
	return api.OK
}

func (b *book) get(name string) (string, api.Errno) {
	if b.down {
		return "", api.ErrDown
	}
	data, is := b.seen()[name]
	if !is {
		return "", api.ErrNone
	}
	return data, api.OK
}

func (b *book) del(name string) api.Errno {
	if _, e := b.get(name); e != api.OK {
		return e
	}
	if b.tried() {
		return api.ErrIO
	}
	b.lines = append(b.lines, line{del: true, name: name})
	return api.OK
}

func (b *book) sync() api.Errno {
	if b.down {
		return api.ErrDown
	}
	b.good, b.lines = b.seen(), nil
	return api.OK
}

func (b *book) crash(keep []int) {
	var left []line
	for i, l := range b.lines {
		if i >= len(keep) || keep[i] < 0 {
			continue
		}
		if keep[i] < len(l.data) {
			l.data = l.data[:keep[i]]
		}
		left = append(left, l)
	}
	b.lines = left
	b.good, b.lines = b.seen(), nil
}

func (b *book) strike(f api.Fault) api.Errno {
	if f.Kind < 1 || f.Kind > 7 || f.N < 0 || f.At < 0 || f.C < 0 || f.C > 255 {
		return api.ErrArg
	}
	if f.Kind == api.Wipe || f.Kind == api.Lose || f.Kind == api.Bend {
		b.good, b.lines = b.seen(), nil
	}
	names := b.names()
	switch {
	case f.Kind == api.Wipe:
		b.good = map[string]string{}
	case f.Kind == api.Lose && len(names) > 0:
		delete(b.good, names[f.N%len(names)])
	case f.Kind == api.Bend && len(names) > 0 && b.good[names[f.N%len(names)]] != "":
		name := names[f.N%len(names)]
		data := b.good[name]
		at := f.At % len(data)
		b.good[name] = data[:at] + string([]byte{byte(f.C)}) + data[at+1:]
	case f.Kind == api.Down:
		b.down = true
	case f.Kind == api.Up:
		b.down = false
	case f.Kind == api.Refuse:
		b.refuse = f.N
	case f.Kind == api.Room:
		b.room = f.N
	}
	return api.OK
}

func (b *book) copy() *book {
	c := *b
	c.good = map[string]string{}
	for name, data := range b.good {
		c.good[name] = data
	}
	c.lines = slices.Clone(b.lines)
	return &c
}

func sameBooks(a, b *book) bool {
	if len(a.good) != len(b.good) {
		return false
	}
	for name, data := range a.good {
		if other, is := b.good[name]; !is || other != data {
			return false
		}
	}
	return slices.Equal(a.lines, b.lines) && a.down == b.down && a.refuse == b.refuse && a.room == b.room
}

// holds fails if a store answers otherwise than its book.
func holds(t *testing.T, s *Store, b *book) {
	t.Helper()
	var all []api.Object
	seen := b.seen()
	for _, name := range b.names() {
		all = append(all, api.Object{Name: name, Data: seen[name]})
	}
	if got := s.Objects(); !slices.Equal(got, all) {
		t.Fatalf("Objects: %.300q, not %.300q", got, all)
	}
	if s.Up() == b.down || s.Sound() != (!b.down && b.refuse < 0) {
		t.Fatalf("Up, Sound: %v, %v; down %v, refuse %d", s.Up(), s.Sound(), b.down, b.refuse)
	}
	list, e := s.List()
	if b.down {
		if e != api.ErrDown || len(list) != 0 {
			t.Fatalf("List of one that does not answer: %q, %d", list, e)
		}
	} else if e != api.OK || !slices.Equal(list, b.names()) {
		t.Fatalf("List: %.300q, %d, not %.300q", list, e, b.names())
	}
	for _, name := range append(b.names(), "", "no such one", strings.Repeat("n", 81)) {
		got, e := s.Get(name)
		if want, we := b.get(name); got != want || e != we {
			t.Fatalf("Get of %q: %.100q, %d, not %.100q, %d", name, got, e, want, we)
		}
	}
}

// pair is a store and its book.
type pair struct {
	s *Store
	b *book
}

func (p pair) copy() pair { return pair{p.s.Copy(), p.b.copy()} }

// dice are numbers that are the same ones each time.
type dice struct{ x uint64 }

func (d *dice) below(n int) int {
	d.x = d.x*6364136223846793005 + 1442695040888963407
	return int(d.x>>33) % n
}

func (d *dice) name() string {
	return []string{"a", "b", "c", "m0", "m1", "m", "m00", "ab"}[d.below(8)]
}

func (d *dice) data() string { return "0123456789"[:d.below(11)] }

func (d *dice) keeps(n int) []int {
	keep := make([]int, d.below(n+3))
	for i := range keep {
		keep[i] = d.below(14) - 2
	}
	return keep
}

// step does one thing to a pair, and fails if the two answer otherwise.
func (p pair) step(t *testing.T, d *dice) {
	t.Helper()
	var e, want api.Errno
	switch k := d.below(20); {
	case k < 9:
		o := api.Object{Name: d.name(), Data: d.data()}
		e, want = p.s.Put(o), p.b.put(o)
	case k < 13:
		name := d.name()
		e, want = p.s.Del(name), p.b.del(name)
	case k < 15:
		e, want = p.s.Sync(), p.b.sync()
	case k < 17:
		keep := d.keeps(len(p.b.lines))
		e = p.s.Crash(keep)
		p.b.crash(keep)
	default:
		f := d.fault()
		e, want = p.s.Strike(f), p.b.strike(f)
	}
	if e != want {
		t.Fatalf("%d, not %d", e, want)
	}
}

// fault is mostly one that leaves something to go on with.
func (d *dice) fault() api.Fault {
	kinds := []uint8{api.Wipe, api.Lose, api.Lose, api.Bend, api.Bend, api.Down, api.Up, api.Up, api.Up, api.Refuse, api.Refuse, api.Room, api.Room, 0, 8}
	f := api.Fault{Kind: kinds[d.below(len(kinds))], Store: d.below(5) - 2, N: d.below(8), At: d.below(30), C: d.below(256)}
	if f.Kind == api.Room {
		f.N = d.below(60)
	}
	if d.below(20) == 0 {
		f.N = -f.N
	}
	return f
}

// P7.1 to P7.6: whatever is done, a store is its book; a copy goes its own way; and stores are the same just where their books are.
func TestAsTheBook(t *testing.T) {
	alike := 0
	for seed := range 400 {
		d := &dice{uint64(seed)}
		p := pair{New(), newBook()}
		var kept []pair
		for range 120 {
			if d.below(6) == 0 {
				kept = append(kept, p.copy())
			}
			p.step(t, d)
			holds(t, p.s, p.b)
		}
		for i, one := range kept {
			holds(t, one.s, one.b)
			for _, other := range kept[i+1:] {
				want := sameBooks(one.b, other.b)
				if Same(one.s, other.s) != want || Same(other.s, one.s) != want {
					t.Fatalf("Same: not %v", want)
				}
				if want {
					alike++
				}
			}
		}
	}
	if alike < 100 {
		t.Error("too few were the same:", alike)
	}
}
