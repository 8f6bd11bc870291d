package store

import (
	"math"
	"slices"
	"strings"
	"testing"
	"unsafe"

	"strongbox/api"
)

// object is one; a few letters tell a test's objects best.
func object(name, data string) api.Object { return api.Object{Name: name, Data: data} }

// of are objects of names and data, by turns.
func of(texts ...string) []api.Object {
	var all []api.Object
	for i := 0; i+1 < len(texts); i += 2 {
		all = append(all, object(texts[i], texts[i+1]))
	}
	return all
}

func put(t *testing.T, s *Store, name, data string, want api.Errno) {
	t.Helper()
	if e := s.Put(object(name, data)); e != want {
		t.Fatalf("Put of %.100q, %.100q: %d, not %d", name, data, e, want)
	}
}

func del(t *testing.T, s *Store, name string, want api.Errno) {
	t.Helper()
	if e := s.Del(name); e != want {
		t.Fatalf("Del of %.100q: %d, not %d", name, e, want)
	}
}

func sync(t *testing.T, s *Store) {
	t.Helper()
	if e := s.Sync(); e != api.OK {
		t.Fatalf("Sync: %d", e)
	}
}

func crash(t *testing.T, s *Store, keep ...int) {
	t.Helper()
	if e := s.Crash(keep); e != api.OK {
		t.Fatalf("Crash by %v: %d", keep, e)
	}
}

func strike(t *testing.T, s *Store, f api.Fault) {
	t.Helper()
	if e := s.Strike(f); e != api.OK {
		t.Fatalf("Strike by %+v: %d", f, e)
	}
}

// sees fails if what is seen is not what texts tell.
func sees(t *testing.T, s *Store, texts ...string) {
	t.Helper()
	if got, want := s.Objects(), of(texts...); !slices.Equal(got, want) {
		t.Fatalf("seen: %.300q, not %.300q", got, want)
	}
}

// has is a store whose objects stand for good.
func has(t *testing.T, texts ...string) *Store {
	t.Helper()
	s := New()
	for _, o := range of(texts...) {
		put(t, s, o.Name, o.Data, api.OK)
	}
	sync(t, s)
	return s
}

// struck is a store with objects that stand for good, and faults behind them.
func struck(t *testing.T, objects []string, faults ...api.Fault) *Store {
	t.Helper()
	s := has(t, objects...)
	for _, f := range faults {
		strike(t, s, f)
	}
	return s
}

// The chapter's examples.
func TestExamples(t *testing.T) {
	s := New()
	put(t, s, "a", "1", api.OK)
	sync(t, s)
	put(t, s, "a", "23", api.OK)
	del(t, s, "b", api.ErrNone)
	c := s.Copy()
	crash(t, s, 1)
	sees(t, s, "a", "2")
	crash(t, c)
	sees(t, c, "a", "1")
	strike(t, c, api.Fault{Kind: api.Room, N: 2})
	put(t, c, "b", "123", api.ErrFull)
	put(t, c, "m0", "123", api.OK)
	strike(t, s, api.Fault{Kind: api.Refuse, N: 1})
	put(t, s, "x", "", api.OK)
	put(t, s, "y", "", api.ErrIO)
	put(t, s, "z", "", api.OK)
	sees(t, s, "a", "2", "x", "", "z", "")
}

// P7.1: a new store has no objects, answers, refuses nothing and has no room.
func TestNew(t *testing.T) {
	s := New()
	holds(t, s, newBook())
	if !Same(s, New()) {
		t.Error("two new stores are not the same")
	}
	for i := range 40 {
		put(t, s, "n"+string(rune('a'+i)), strings.Repeat("x", api.MaxObject), api.OK)
	}
}

// P7.1: what is put is seen at once, and so is what is put over it, or behind a del.
func TestPutGetDel(t *testing.T) {
	s := New()
	put(t, s, "b", "one", api.OK)
	sees(t, s, "b", "one")
	put(t, s, "a", "", api.OK)
	sees(t, s, "a", "", "b", "one")
	put(t, s, "b", "", api.OK)
	put(t, s, "b", "longer", api.OK)
	put(t, s, "b", "two", api.OK)
	sees(t, s, "a", "", "b", "two")
	del(t, s, "b", api.OK)
	sees(t, s, "a", "")
	del(t, s, "b", api.ErrNone)
	put(t, s, "b", "again", api.OK)
	sees(t, s, "a", "", "b", "again")
	sync(t, s)
	sees(t, s, "a", "", "b", "again")
	del(t, s, "a", api.OK)
	del(t, s, "a", api.ErrNone)
	sync(t, s)
	del(t, s, "a", api.ErrNone)
	sees(t, s, "b", "again")
	if data, e := s.Get("a"); data != "" || e != api.ErrNone {
		t.Errorf("Get of what is gone: %q, %d", data, e)
	}
}

// P7.1: names and data of all lengths around what may be, and of any bytes.
func TestLengths(t *testing.T) {
	for _, size := range []int{1, 2, 79, 80} {
		name := strings.Repeat("n", size)
		s := has(t, name, "data")
		if data, e := s.Get(name); data != "data" || e != api.OK {
			t.Errorf("Get of a name of %d bytes: %q, %d", size, data, e)
		}
		del(t, s, name, api.OK)
		sees(t, s)
	}
	for _, size := range []int{0, 1, 255, 65535, 65536} {
		data := strings.Repeat("\x00\xff", size)[:size]
		s := has(t, "n", data)
		if got, e := s.Get("n"); got != data || e != api.OK {
			t.Errorf("Get of %d bytes: %d, %d", size, len(got), e)
		}
	}
	s := has(t, "a", "1")
	was := s.Copy()
	put(t, s, "", "data", api.ErrArg)
	put(t, s, "", "", api.ErrArg)
	for _, size := range []int{81, 82, 1000} {
		name := strings.Repeat("a", size)
		put(t, s, name, "data", api.ErrArg)
		del(t, s, name, api.ErrNone)
		if data, e := s.Get(name); data != "" || e != api.ErrNone {
			t.Errorf("Get of a name of %d bytes: %q, %d", size, data, e)
		}
	}
	del(t, s, "", api.ErrNone)
	for _, size := range []int{65537, 65538, 200000} {
		for _, name := range []string{"a", "b", "m0"} {
			put(t, s, name, strings.Repeat("x", size), api.ErrArg)
		}
	}
	if !Same(s, was) {
		t.Error("a put that was refused changed the store")
	}
}

// P7.1, P7.3: names rise byte by byte.
func TestRising(t *testing.T) {
	names := []string{"b", "a", "ab", "a\x00", "\xff", "\x00", "B", "é", "m1", "m0", "a.10", "a.2", strings.Repeat("a", 80)}
	s := New()
	for _, name := range names {
		put(t, s, name, name+"!", api.OK)
	}
	rising := slices.Clone(names)
	slices.SortFunc(rising, func(a, b string) int { return slices.Compare([]byte(a), []byte(b)) })
	if got, e := s.List(); e != api.OK || !slices.Equal(got, rising) {
		t.Errorf("List: %q, %d", got, e)
	}
	for i, o := range s.Objects() {
		if o != object(rising[i], rising[i]+"!") {
			t.Errorf("Objects: %d is %q", i, o)
		}
	}
}

// P7.1, P7.4: what was synced stands for good, what was written behind that does not.
func TestSync(t *testing.T) {
	s := New()
	put(t, s, "a", "1", api.OK)
	crash(t, s)
	sees(t, s)
	put(t, s, "a", "1", api.OK)
	put(t, s, "b", "2", api.OK)
	del(t, s, "b", api.OK)
	sync(t, s)
	sync(t, s)
	crash(t, s)
	sees(t, s, "a", "1")
	put(t, s, "a", "11", api.OK)
	put(t, s, "c", "3", api.OK)
	del(t, s, "a", api.OK)
	sees(t, s, "c", "3")
	crash(t, s)
	sees(t, s, "a", "1")
	crash(t, s, math.MaxInt, math.MaxInt)
	sees(t, s, "a", "1")
}

// P7.2: each kind of keep of a put and of a del.
func TestCrashKeeps(t *testing.T) {
	for _, c := range []struct {
		keep  int
		after string
	}{
		{math.MinInt, "old"}, {-2, "old"}, {-1, "old"}, {0, ""}, {1, "n"}, {5, "newes"}, {6, "newest"}, {7, "newest"},
		{api.MaxObject, "newest"}, {api.MaxObject + 1, "newest"}, {math.MaxInt, "newest"},
	} {
		s := has(t, "a", "old", "b", "")
		put(t, s, "a", "newest", api.OK)
		put(t, s, "c", "newest", api.OK)
		crash(t, s, c.keep, c.keep)
		if c.keep < 0 {
			sees(t, s, "a", "old", "b", "")
		} else {
			sees(t, s, "a", c.after, "b", "", "c", c.after)
		}
		s = has(t, "a", "old", "b", "")
		del(t, s, "a", api.OK)
		del(t, s, "b", api.OK)
		crash(t, s, c.keep, c.keep)
		if c.keep < 0 {
			sees(t, s, "a", "old", "b", "")
		} else {
			sees(t, s)
		}
	}
	data := strings.Repeat("x", api.MaxObject)
	for _, keep := range []int{api.MaxObject - 1, api.MaxObject, api.MaxObject + 1} {
		s := New()
		put(t, s, "a", data, api.OK)
		crash(t, s, keep)
		sees(t, s, "a", data[:min(keep, api.MaxObject)])
	}
}

// P7.2: lists of keeps that are shorter than the writes, as long, and longer; each write has its own keep, by its number.
func TestCrashLists(t *testing.T) {
	for size := range 8 {
		s := has(t, "z", "zz")
		keep := []int{}
		want := of("z", "zz")
		for i, name := range []string{"a", "b", "c", "d"} {
			put(t, s, name, "data", api.OK)
			if i < size {
				want = append(want, object(name, "data"[:i]))
			}
		}
		for i := range size {
			keep = append(keep, i)
		}
		slices.SortFunc(want, func(a, b api.Object) int { return strings.Compare(a.Name, b.Name) })
		crash(t, s, keep...)
		if got := s.Objects(); !slices.Equal(got, want) {
			t.Errorf("%d keeps: %q, not %q", size, got, want)
		}
	}
}

// P7.2, P7.5: one object's writes, in their row, with all keeps of each: those of the first ones do not show where a later one survives.
func TestCrashRow(t *testing.T) {
	for n := range 5 * 5 * 5 * 5 {
		keep := []int{n%5 - 1, n/5%5 - 1, n/25%5 - 1, n/125 - 1}
		p := pair{has(t, "a", "first"), newBook()}
		p.b.put(object("a", "first"))
		p.b.sync()
		for _, l := range []line{{name: "a", data: "se"}, {del: true, name: "a"}, {name: "b", data: "fourth"}, {name: "a", data: "fifth"}} {
			if l.del {
				del(t, p.s, l.name, p.b.del(l.name))
			} else {
				put(t, p.s, l.name, l.data, p.b.put(object(l.name, l.data)))
			}
		}
		crash(t, p.s, keep...)
		p.b.crash(keep)
		holds(t, p.s, p.b)
		// What survived stands for good.
		was := p.s.Copy()
		crash(t, p.s, keep...)
		if !Same(p.s, was) {
			t.Fatalf("keeps %v: a crash behind a crash changes the store", keep)
		}
	}
}

// P7.2: a del survives of which the put did not: there is nothing to take away.
func TestCrashDelAlone(t *testing.T) {
	s := New()
	put(t, s, "a", "1", api.OK)
	del(t, s, "a", api.OK)
	crash(t, s, -1, 0)
	sees(t, s)
	put(t, s, "a", "1", api.OK)
	del(t, s, "a", api.OK)
	crash(t, s, 1, -1)
	sees(t, s, "a", "1")
}

// P7.2: the power goes also of a store that does not answer, and leaves all else as it was.
func TestCrashElse(t *testing.T) {
	s := has(t, "a", "1")
	put(t, s, "a", "23", api.OK)
	put(t, s, "b", "4", api.OK)
	strike(t, s, api.Fault{Kind: api.Room, N: 4})
	strike(t, s, api.Fault{Kind: api.Refuse, N: 0})
	strike(t, s, api.Fault{Kind: api.Down})
	crash(t, s, 1)
	sees(t, s, "a", "2")
	if s.Up() {
		t.Error("it answers behind a crash")
	}
	strike(t, s, api.Fault{Kind: api.Up})
	if s.Sound() {
		t.Error("it refuses nothing behind a crash")
	}
	put(t, s, "c", "1234", api.ErrFull)
	put(t, s, "c", "123", api.ErrIO)
	put(t, s, "c", "123", api.OK)
	sees(t, s, "a", "2", "c", "123")
}

// P7.4: behind a Sync, whatever is written, and nothing of it survives: as at the Sync; if all survives, as seen last.
func TestForGood(t *testing.T) {
	for seed := range 300 {
		d := &dice{uint64(seed)}
		s := New()
		scribble(s, d, 20)
		sync(t, s)
		atSync := s.Objects()
		n := scribble(s, d, d.below(30))
		last := s.Objects()
		none, all := s.Copy(), s.Copy()
		crash(t, none, slices.Repeat([]int{-1 - d.below(2)}, d.below(n+5))...)
		if got := none.Objects(); !slices.Equal(got, atSync) {
			t.Fatalf("nothing survives: %q, not %q", got, atSync)
		}
		crash(t, all, slices.Repeat([]int{api.MaxObject}, n+d.below(3))...)
		if got := all.Objects(); !slices.Equal(got, last) {
			t.Fatalf("all survives: %q, not %q", got, last)
		}
	}
}

// scribble tries so many puts and dels, and tells how many of them were done.
func scribble(s *Store, d *dice, n int) int {
	done := 0
	for range n {
		e := s.Put(object(d.name(), d.data()))
		if d.below(3) == 0 {
			if e == api.OK {
				done++
			}
			e = s.Del(d.name())
		}
		if e == api.OK {
			done++
		}
	}
	return done
}

// P7.5: each object is as it was at the last Sync, or begins as some put behind it, or is gone, if it was not there, or a del stood behind.
func TestEachWrite(t *testing.T) {
	names := []string{"a", "b", "c"}
	for seed := range 500 {
		d := &dice{uint64(seed)}
		s := New()
		for _, name := range names {
			if d.below(2) == 0 {
				put(t, s, name, "synced "+name, api.OK)
			}
		}
		sync(t, s)
		atSync := s.Copy()
		puts, gone := map[string][]string{}, map[string]int{}
		for i := range 12 {
			name := names[d.below(3)]
			if s.Del(name) == api.OK && d.below(2) == 0 {
				gone[name]++
				continue
			}
			if _, e := atSync.Get(name); e == api.OK {
				gone[name]++
			}
			data := string(rune('A'+i)) + strings.Repeat("x", d.below(9))
			put(t, s, name, data, api.OK)
			puts[name] = append(puts[name], data)
		}
		crash(t, s, d.keeps(24)...)
		for _, name := range names {
			old, was := atSync.Get(name)
			data, e := s.Get(name)
			begins := slices.ContainsFunc(puts[name], func(one string) bool { return strings.HasPrefix(one, data) })
			switch {
			case e == api.OK && (was == api.OK && data == old || begins):
			case e == api.ErrNone && (was == api.ErrNone || gone[name] > 0):
			default:
				t.Fatalf("%s: %q, %d; synced %q, %d; puts %q, dels %d", name, data, e, old, was, puts[name], gone[name])
			}
		}
	}
}

// everyCall are what calls on one store answer: all that answer an error, with their other results.
func everyCall(s *Store) (errors []api.Errno, zero bool) {
	data, get := s.Get("a")
	names, list := s.List()
	errors = []api.Errno{s.Put(object("a", "new")), get, s.Del("a"), list, s.Sync()}
	return errors, data == "" && len(names) == 0
}

// P7.3, R1: a nil store.
func TestNil(t *testing.T) {
	var s *Store
	errors, zero := everyCall(s)
	errors = append(errors, s.Crash([]int{1}), s.Crash(nil), s.Strike(api.Fault{Kind: api.Wipe}), s.Strike(api.Fault{}),
		s.Put(api.Object{}), s.Put(object("a", strings.Repeat("x", api.MaxObject+1))), s.Strike(api.Fault{Kind: 99, N: -1}))
	for i, e := range errors {
		if e != api.ErrNil {
			t.Errorf("call %d: %d", i, e)
		}
	}
	if !zero || s.Up() || s.Sound() || len(s.Objects()) != 0 || s.Copy() != nil {
		t.Error("a nil store has something")
	}
	if !Same(nil, nil) || Same(New(), nil) || Same(nil, New()) || Same(s, New()) || !Same(s, nil) {
		t.Error("Same of nil")
	}
}

// R1: a store that was not made by New does not panic.
func TestOtherwise(t *testing.T) {
	for kind := range 10 {
		var s Store
		s.Strike(api.Fault{Kind: uint8(kind), N: 3, At: 3, C: 3})
		everyCall(&s)
		s.Crash([]int{1, 1, 1})
		everyCall(s.Copy())
		s.Objects()
		Same(&s, New())
	}
}

// P7.3, R2: a copy and what it was made of do not see one another: objects, writes, what is refused, room, whether it answers.
func TestCopy(t *testing.T) {
	deeds := []func(s *Store){
		func(s *Store) { s.Put(object("a", "new")) },
		func(s *Store) { s.Put(object("n", "new")) },
		func(s *Store) { s.Del("a") },
		func(s *Store) { s.Del("b") },
		func(s *Store) { s.Sync() },
		func(s *Store) { s.Crash([]int{0, 1, 2}) },
		func(s *Store) { s.Crash(nil) },
		func(s *Store) { s.Strike(api.Fault{Kind: api.Wipe}) },
		func(s *Store) { s.Strike(api.Fault{Kind: api.Lose, N: 1}) },
		func(s *Store) { s.Strike(api.Fault{Kind: api.Bend, N: 1, At: 1, C: 1}) },
		func(s *Store) { s.Strike(api.Fault{Kind: api.Down}) },
		func(s *Store) { s.Strike(api.Fault{Kind: api.Refuse, N: 7}) },
		func(s *Store) { s.Strike(api.Fault{Kind: api.Room, N: 77}) },
	}
	for i, deed := range deeds {
		for turn := range 2 {
			one := struck(t, []string{"a", "1", "b", "22", "c", ""}, api.Fault{Kind: api.Room, N: 70}, api.Fault{Kind: api.Refuse, N: 9})
			put(t, one, "b", "333", api.OK)
			put(t, one, "d", "4", api.OK)
			del(t, one, "c", api.OK)
			if !Same(one, one) || !Same(one, one.Copy()) || !Same(one.Copy().Copy(), one) {
				t.Fatal("a copy is not the same")
			}
			other := one.Copy()
			third := other.Copy()
			if turn == 1 {
				one, other = other, one
			}
			deed(one)
			if Same(one, other) {
				t.Errorf("deed %d, turn %d: it is seen in a copy, or nowhere", i, turn)
			}
			if !Same(other, third) {
				t.Errorf("deed %d, turn %d: it is seen in a copy", i, turn)
			}
			deed(other)
			if !Same(one, other) {
				t.Errorf("deed %d, turn %d: the same deed makes another store", i, turn)
			}
		}
	}
}

// R2: writes of two copies of one store do not run into one another, however many there are.
func TestCopiesWrites(t *testing.T) {
	for n := range 20 {
		s := New()
		for i := range n {
			put(t, s, "n"+string(rune('a'+i)), "x", api.OK)
		}
		one, other := s.Copy(), s.Copy()
		put(t, s, "s", "mine", api.OK)
		put(t, one, "s", "one", api.OK)
		put(t, other, "s", "other", api.OK)
		keep := slices.Repeat([]int{api.MaxObject}, n+1)
		for _, c := range []struct {
			s    *Store
			want string
		}{{s, "mine"}, {one, "one"}, {other, "other"}} {
			crash(t, c.s, keep...)
			if data, e := c.s.Get("s"); data != c.want || e != api.OK || len(c.s.Objects()) != n+1 {
				t.Errorf("%d writes: %q, %d, not %q", n, data, e, c.want)
			}
		}
	}
}

// others are stores that differ from one another in one thing alone.
func others(t *testing.T) []*Store {
	fault := func(kind uint8, n int) api.Fault { return api.Fault{Kind: kind, N: n} }
	base := []string{"a", "1"}
	all := []*Store{
		New(), has(t, "a", "1"), has(t, "a", "2"), has(t, "a", ""), has(t, "b", "1"), has(t, "a", "1", "b", ""),
		struck(t, base, fault(api.Down, 0)),
		struck(t, base, fault(api.Refuse, 0)), struck(t, base, fault(api.Refuse, 1)), struck(t, base, fault(api.Refuse, 2)),
		struck(t, base, fault(api.Room, 0)), struck(t, base, fault(api.Room, 1)), struck(t, base, fault(api.Room, 2)),
	}
	write := func(objects []string, lines ...line) {
		s := has(t, objects...)
		for _, l := range lines {
			if l.del {
				del(t, s, l.name, api.OK)
			} else {
				put(t, s, l.name, l.data, api.OK)
			}
		}
		all = append(all, s)
	}
	putA, delA := line{name: "a", data: "1"}, line{del: true, name: "a"}
	// What is seen is the same, what stands for good is not; or the writes are others, more, or in another row.
	write(nil, putA)
	write(base, putA)
	write([]string{"a", "2"}, putA)
	write([]string{"a", ""}, putA)
	write(base, putA, putA)
	write(base, delA, putA)
	write(base, delA)
	write([]string{"a", "2"}, delA)
	write([]string{"a", ""}, delA)
	write(nil, putA, delA)
	write(base, line{name: "a", data: "2"}, putA)
	write(base, line{name: "a", data: "3"}, putA)
	write(nil, putA, line{name: "b", data: "1"})
	write(nil, line{name: "b", data: "1"}, putA)
	return all
}

// P7.3: stores that differ in one thing alone are not the same, and each one is what it was made as.
func TestSame(t *testing.T) {
	all, again := others(t), others(t)
	for i, a := range all {
		for j, b := range again {
			if Same(a, b) != (i == j) {
				t.Errorf("Same of %d and %d: %v", i, j, i != j)
			}
		}
	}
}

// P7.3: what is over leaves nothing behind: stores that came to one state by different ways are the same.
func TestSameWays(t *testing.T) {
	plain := has(t, "a", "1")
	refused := struck(t, []string{"a", "1"}, api.Fault{Kind: api.Refuse, N: 1})
	put(t, refused, "b", "", api.OK)
	put(t, refused, "c", "", api.ErrIO)
	crash(t, refused)
	synced := has(t, "b", "2")
	del(t, synced, "b", api.OK)
	put(t, synced, "a", "2", api.OK)
	put(t, synced, "a", "1", api.OK)
	sync(t, synced)
	crashed := has(t, "b", "2")
	del(t, crashed, "b", api.OK)
	put(t, crashed, "a", "111", api.OK)
	crash(t, crashed, 0, 1)
	wiped := struck(t, []string{"b", "2", "c", "3"}, api.Fault{Kind: api.Wipe})
	put(t, wiped, "a", "1", api.OK)
	sync(t, wiped)
	lost := struck(t, []string{"a", "1", "b", "3"}, api.Fault{Kind: api.Lose, N: 1})
	bent := struck(t, []string{"a", "0"}, api.Fault{Kind: api.Bend, C: '1'})
	again := struck(t, []string{"a", "1"}, api.Fault{Kind: api.Down}, api.Fault{Kind: api.Up})
	for i, s := range []*Store{refused, synced, crashed, wiped, lost, bent, again} {
		if !Same(s, plain) || !Same(plain, s) {
			t.Errorf("way %d is not the same", i)
		}
	}
	empty := has(t, "a", "1")
	del(t, empty, "a", api.OK)
	sync(t, empty)
	if !Same(empty, New()) || !Same(New(), empty) {
		t.Error("a store without objects is not a new one")
	}
	counted := struck(t, nil, api.Fault{Kind: api.Refuse, N: 3})
	put(t, counted, "a", "", api.OK)
	put(t, counted, "a", "", api.OK)
	crash(t, counted)
	if !Same(counted, struck(t, nil, api.Fault{Kind: api.Refuse, N: 1})) {
		t.Error("a Refuse of 3 behind two writes is not a Refuse of 1")
	}
}

// Each refusal in the order that the table tells: of all that is wrong the first is told, and nothing changes but by ErrIO.
func TestOrder(t *testing.T) {
	long, large := strings.Repeat("n", api.MaxName+1), strings.Repeat("x", api.MaxObject+1)
	s := struck(t, []string{"a", "1"}, api.Fault{Kind: api.Room}, api.Fault{Kind: api.Refuse}, api.Fault{Kind: api.Down})
	was := s.Copy()
	for _, o := range []api.Object{object("", ""), object(long, ""), object("b", large), object(long, large), object("m0", large)} {
		put(t, s, o.Name, o.Data, api.ErrArg)
	}
	put(t, s, "b", "22", api.ErrDown)
	put(t, s, "m0", "22", api.ErrDown)
	for _, name := range []string{"a", "b", "", long} {
		del(t, s, name, api.ErrDown)
		if data, e := s.Get(name); data != "" || e != api.ErrDown {
			t.Errorf("Get of %q: %q, %d", name, data, e)
		}
	}
	if names, e := s.List(); len(names) != 0 || e != api.ErrDown {
		t.Errorf("List: %q, %d", names, e)
	}
	if e := s.Sync(); e != api.ErrDown {
		t.Errorf("Sync: %d", e)
	}
	if !Same(s, was) {
		t.Error("what was refused changed the store")
	}
	strike(t, s, api.Fault{Kind: api.Up})
	was = s.Copy()
	put(t, s, "", "22", api.ErrArg)
	put(t, s, long, "22", api.ErrArg)
	put(t, s, "b", large, api.ErrArg)
	put(t, s, "b", "22", api.ErrFull)
	del(t, s, "b", api.ErrNone)
	del(t, s, "", api.ErrNone)
	if !Same(s, was) {
		t.Error("what was refused changed the store")
	}
	put(t, s.Copy(), "m0", "22", api.ErrIO)
	del(t, s.Copy(), "a", api.ErrIO)
	sees(t, s, "a", "1")
}

// within says whether a text stands in another one's memory.
func within(part, whole string) bool {
	at := uintptr(unsafe.Pointer(unsafe.StringData(part)))
	from := uintptr(unsafe.Pointer(unsafe.StringData(whole)))
	return from <= at && at < from+uintptr(len(whole))
}

// R3: nothing that was handed in is kept: not the texts' memory, and not a list of keeps.
func TestNotKept(t *testing.T) {
	text := strings.Repeat("name and data", 9)
	name, data := text[:4], text[9:]
	s := New()
	put(t, s, name, data, api.OK)
	del(t, s, name, api.OK)
	put(t, s, name, data, api.OK)
	c := s.Copy()
	if e := c.Crash([]int{-1, -1, 50}); e != api.OK {
		t.Fatal(e)
	}
	strike(t, c, api.Fault{Kind: api.Bend, At: 1, C: '!'})
	for _, one := range []*Store{s, c} {
		for _, o := range one.Objects() {
			got, _ := one.Get(o.Name)
			if within(o.Name, text) || within(o.Data, text) || within(got, text) {
				t.Error("what was handed in is kept")
			}
		}
	}
	room := []int{1, 2, 3, 4, 5}
	keep := room[:2]
	s = New()
	for _, name := range []string{"a", "b", "c"} {
		put(t, s, name, "data", api.OK)
	}
	crash(t, s, keep...)
	for i := range room {
		if room[i] != i+1 {
			t.Error("a list that was handed in is another one:", room)
		}
		room[i] = 99
	}
	sees(t, s, "a", "d", "b", "da")
	crash(t, s)
	sees(t, s, "a", "d", "b", "da")
}

// R3: what is handed out is new memory, its spare room too.
func TestHandedOut(t *testing.T) {
	s := has(t, "a", "1", "b", "2", "c", "3")
	was := s.Copy()
	for range 2 {
		names, _ := s.List()
		objects := s.Objects()
		names, objects = names[:cap(names)], objects[:cap(objects)]
		for i := range names {
			names[i] = "zz"
		}
		for i := range objects {
			objects[i] = object("zz", "zz")
		}
		sees(t, s, "a", "1", "b", "2", "c", "3")
		if list, e := s.List(); e != api.OK || !slices.Equal(list, []string{"a", "b", "c"}) {
			t.Errorf("List: %q, %d", list, e)
		}
	}
	if !Same(s, was) {
		t.Error("what was written into answers is seen")
	}
}

// R2: stores do not see one another.
func TestApart(t *testing.T) {
	a, b := New(), New()
	put(t, a, "a", "1", api.OK)
	strike(t, a, api.Fault{Kind: api.Room, N: 1})
	strike(t, a, api.Fault{Kind: api.Refuse})
	strike(t, a, api.Fault{Kind: api.Down})
	if !Same(b, New()) || !Same(New(), b) {
		t.Error("a store is seen in another one")
	}
	put(t, b, "b", "22", api.OK)
	sees(t, b, "b", "22")
	sees(t, a, "a", "1")
}
