package store

import (
	"math"
	"slices"
	"strings"
	"testing"

	"strongbox/api"
)

// unsettled is a store with objects that stand for good and writes behind them: seen are a 11, b 22, d 44.
func unsettled(t *testing.T) *Store {
	t.Helper()
	s := has(t, "a", "1", "b", "22", "c", "333")
	put(t, s, "a", "11", api.OK)
	put(t, s, "d", "44", api.OK)
	del(t, s, "c", api.OK)
	return s
}

// P7.2: kinds that are none, and numbers that may not be, of each kind: ErrArg, and nothing has changed, not even that the writes stand for good.
func TestStrikeWrong(t *testing.T) {
	s := unsettled(t)
	was := s.Copy()
	refused := func(f api.Fault) {
		t.Helper()
		if e := s.Strike(f); e != api.ErrArg || !Same(s, was) {
			t.Errorf("Strike by %+v: %d; as it was: %v", f, e, Same(s, was))
		}
	}
	refused(api.Fault{})
	refused(api.Fault{N: 1, At: 1, C: 1})
	for kind := 8; kind < 256; kind++ {
		refused(api.Fault{Kind: uint8(kind)})
	}
	for kind := range 9 {
		for _, below := range []int{-1, -2, math.MinInt} {
			refused(api.Fault{Kind: uint8(kind), N: below})
			refused(api.Fault{Kind: uint8(kind), At: below})
			refused(api.Fault{Kind: uint8(kind), C: below})
		}
		for _, above := range []int{256, 257, 512, 1 << 32, math.MaxInt} {
			refused(api.Fault{Kind: uint8(kind), C: above})
		}
	}
}

// P7.2: numbers at their edges may be, of each kind, and whatever Store says is not looked at.
func TestStrikeEdges(t *testing.T) {
	for kind := api.Wipe; kind <= api.Room; kind++ {
		for _, number := range []int{0, 1, 255, math.MaxInt} {
			for _, f := range []api.Fault{{N: number}, {At: number}, {C: min(number, 255)}, {N: number, At: number, C: 255}} {
				f.Kind = kind
				s, other := unsettled(t), unsettled(t)
				strike(t, s, f)
				for _, store := range []int{-1, 1, 12, 99, math.MinInt, math.MaxInt} {
					f.Store = store
					one := unsettled(t)
					strike(t, one, f)
					if !Same(s, one) {
						t.Errorf("Store is looked at: %+v", f)
					}
				}
				if Same(s, other) != (kind == api.Up) {
					t.Errorf("Strike by %+v: changed: %v", f, !Same(s, other))
				}
			}
		}
	}
}

// P7.2: Wipe: there are no objects, and that stands for good; all else is as it was.
func TestWipe(t *testing.T) {
	s := unsettled(t)
	strike(t, s, api.Fault{Kind: api.Refuse, N: 1})
	strike(t, s, api.Fault{Kind: api.Room, N: 2})
	strike(t, s, api.Fault{Kind: api.Wipe, N: 5, At: 5, C: 5})
	sees(t, s)
	crash(t, s, 9, 9, 9)
	sees(t, s)
	put(t, s, "a", "333", api.ErrFull)
	put(t, s, "a", "22", api.OK)
	put(t, s, "b", "", api.ErrIO)
	sees(t, s, "a", "22")
	s = New()
	strike(t, s, api.Fault{Kind: api.Wipe})
	if !Same(s, New()) {
		t.Error("a new store that was wiped is not a new one")
	}
}

// P7.2: Lose: the object of the number N, counted round, is gone, and all writes stand for good.
func TestLose(t *testing.T) {
	for n := range 10 {
		s := unsettled(t)
		strike(t, s, api.Fault{Kind: api.Lose, N: n})
		want := [][]string{{"b", "22", "d", "44"}, {"a", "11", "d", "44"}, {"a", "11", "b", "22"}}[n%3]
		sees(t, s, want...)
		crash(t, s)
		sees(t, s, want...)
		if !Same(s, has(t, want...)) {
			t.Errorf("Lose of %d left something behind", n)
		}
	}
	s := has(t, "a", "", "m0", "", "m1", "")
	strike(t, s, api.Fault{Kind: api.Lose, N: math.MaxInt})
	want := [][]string{{"m0", "", "m1", ""}, {"a", "", "m1", ""}, {"a", "", "m0", ""}}[math.MaxInt%3]
	sees(t, s, want...)
}

// P7.2: of no objects a Lose and a Bend do nothing but that the writes stand for good.
func TestStrikeNothing(t *testing.T) {
	for _, kind := range []uint8{api.Lose, api.Bend} {
		for _, n := range []int{0, 1, 7, math.MaxInt} {
			f := api.Fault{Kind: kind, N: n, At: n, C: 7}
			s := New()
			strike(t, s, f)
			if !Same(s, New()) {
				t.Errorf("%+v of no objects", f)
			}
			s = has(t, "a", "1")
			del(t, s, "a", api.OK)
			strike(t, s, f)
			crash(t, s)
			sees(t, s)
			if !Same(s, New()) {
				t.Errorf("%+v of an object that is taken away", f)
			}
		}
	}
}

// P7.2: Bend: of that object the byte At, counted round, becomes C, and all writes stand for good.
func TestBend(t *testing.T) {
	for n := range 6 {
		for at := range 7 {
			for _, c := range []int{0, 'x', '1', 255} {
				s := unsettled(t)
				strike(t, s, api.Fault{Kind: api.Bend, N: n, At: at, C: c})
				want := []string{"a", "11", "b", "22", "d", "44"}
				data := []byte(want[n%3*2+1])
				data[at%2] = byte(c)
				want[n%3*2+1] = string(data)
				sees(t, s, want...)
				crash(t, s)
				sees(t, s, want...)
				if !Same(s, has(t, want...)) {
					t.Errorf("Bend of %d, %d, %d left something behind", n, at, c)
				}
			}
		}
	}
	s := has(t, "a", "012")
	strike(t, s, api.Fault{Kind: api.Bend, N: math.MaxInt, At: math.MaxInt, C: '!'})
	at := math.MaxInt % 3
	sees(t, s, "a", "012"[:at]+"!"+"012"[at+1:])
	data := strings.Repeat("x", api.MaxObject)
	s = has(t, "a", data)
	strike(t, s, api.Fault{Kind: api.Bend, At: api.MaxObject - 1, C: 'y'})
	strike(t, s, api.Fault{Kind: api.Bend, At: api.MaxObject, C: 'z'})
	sees(t, s, "a", "z"+data[2:]+"y")
}

// P7.2: a Bend of an object of no bytes does nothing but that the writes stand for good; the object stays.
func TestBendEmpty(t *testing.T) {
	for _, at := range []int{0, 1, math.MaxInt} {
		s := has(t, "b", "1")
		put(t, s, "a", "", api.OK)
		strike(t, s, api.Fault{Kind: api.Bend, N: 2, At: at, C: 9})
		crash(t, s)
		sees(t, s, "a", "", "b", "1")
		if !Same(s, has(t, "a", "", "b", "1")) {
			t.Error("Bend of an object of no bytes left something behind")
		}
	}
}

// P7.2: these faults strike a store that does not answer, too.
func TestStrikeDown(t *testing.T) {
	for _, c := range []struct {
		f    api.Fault
		want []string
	}{
		{api.Fault{Kind: api.Wipe}, nil},
		{api.Fault{Kind: api.Lose, N: 1}, []string{"a", "11", "d", "44"}},
		{api.Fault{Kind: api.Bend, N: 1, At: 1, C: '!'}, []string{"a", "11", "b", "2!", "d", "44"}},
	} {
		s := unsettled(t)
		strike(t, s, api.Fault{Kind: api.Down})
		strike(t, s, c.f)
		sees(t, s, c.want...)
		if s.Up() {
			t.Errorf("it answers behind %+v", c.f)
		}
		strike(t, s, api.Fault{Kind: api.Up})
		crash(t, s)
		sees(t, s, c.want...)
	}
}

// P7.2, P7.3: Down, Up: what is seen, and what does not stand for good yet, stays so.
func TestDownUp(t *testing.T) {
	s := unsettled(t)
	was := s.Copy()
	for range 2 {
		strike(t, s, api.Fault{Kind: api.Down, N: 3, At: 3, C: 3})
		if s.Up() || s.Sound() {
			t.Error("it answers")
		}
		errors, zero := everyCall(s)
		for i, e := range errors {
			if e != api.ErrDown {
				t.Errorf("call %d: %d", i, e)
			}
		}
		if !zero {
			t.Error("it tells something")
		}
		sees(t, s, "a", "11", "b", "22", "d", "44")
	}
	for range 2 {
		strike(t, s, api.Fault{Kind: api.Up, N: 3, At: 3, C: 3})
		if !s.Up() || !s.Sound() || !Same(s, was) {
			t.Error("it is not as it was")
		}
	}
	crash(t, s)
	sees(t, s, "a", "1", "b", "22", "c", "333")
}

// P7.2, P7.6: Refuse of n: n writes are done, the next one is refused, and no more; puts and dels alike.
func TestRefuse(t *testing.T) {
	for n := range 6 {
		for wrong := range 2 {
			s := struck(t, []string{"a", "1"}, api.Fault{Kind: api.Refuse, N: n, At: 3, C: 3})
			for i := range n {
				if s.Sound() {
					t.Errorf("Refuse of %d: it is sound ahead of the write %d", n, i)
				}
				if i%2 == 0 {
					del(t, s, "a", api.OK)
				} else {
					put(t, s, "a", "1", api.OK)
				}
			}
			put(t, s.Copy(), "m0", "", api.ErrIO)
			seen := s.Objects()
			if wrong == 0 || n%2 == 1 {
				put(t, s, "a", "other", api.ErrIO)
			} else {
				del(t, s, "a", api.ErrIO)
			}
			if got := s.Objects(); !slices.Equal(got, seen) {
				t.Errorf("Refuse of %d: what was refused is seen: %q", n, got)
			}
			if !s.Sound() {
				t.Errorf("Refuse of %d: it is not sound behind it", n)
			}
			for range n + 3 {
				put(t, s, "b", "2", api.OK)
				del(t, s, "b", api.OK)
			}
			// A write that was refused is none: it has no keep.
			crash(t, s, append(make([]int, n), 1)...)
			if _, e := s.Get("b"); e != api.OK {
				t.Errorf("Refuse of %d: the first write behind it has another keep", n)
			}
		}
	}
	s := struck(t, nil, api.Fault{Kind: api.Refuse, N: math.MaxInt})
	put(t, s, "a", "", api.OK)
	if s.Sound() {
		t.Error("a Refuse of very many is forgotten")
	}
}

// P7.2: what was said ahead of a Refuse holds no more.
func TestRefuseAnew(t *testing.T) {
	for first := range 4 {
		for done := range first + 1 {
			for second := range 4 {
				s := struck(t, nil, api.Fault{Kind: api.Refuse, N: first})
				for range done {
					put(t, s, "a", "", api.OK)
				}
				strike(t, s, api.Fault{Kind: api.Refuse, N: second})
				for range second {
					put(t, s, "a", "", api.OK)
				}
				put(t, s, "a", "", api.ErrIO)
				for range 10 {
					put(t, s, "a", "", api.OK)
				}
			}
		}
	}
}

// P7.2: a write that another error keeps from being done is not counted, nor is anything that is no write.
func TestNotTried(t *testing.T) {
	s := struck(t, []string{"a", "1"}, api.Fault{Kind: api.Room, N: 3}, api.Fault{Kind: api.Refuse, N: 1})
	was := s.Copy()
	idle := func() {
		t.Helper()
		for range 3 {
			put(t, s, "", "", api.ErrArg)
			put(t, s, "b", strings.Repeat("x", api.MaxObject+1), api.ErrArg)
			put(t, s, "b", "333", api.ErrFull)
			del(t, s, "b", api.ErrNone)
			s.Get("a")
			s.Get("b")
			s.List()
			s.Objects()
			s.Sync()
			s.Crash([]int{1})
			strike(t, s, api.Fault{Kind: api.Down})
			put(t, s, "a", "2", api.ErrDown)
			del(t, s, "a", api.ErrDown)
			strike(t, s, api.Fault{Kind: api.Up})
			strike(t, s, api.Fault{Kind: api.Room, N: 3})
			strike(t, s, api.Fault{Kind: api.Bend, C: '1'})
		}
	}
	idle()
	if !Same(s, was) {
		t.Error("what is no write that is tried was counted")
	}
	put(t, s, "a", "4", api.OK)
	sync(t, s)
	idle()
	put(t, s, "a", "5", api.ErrIO)
	sees(t, s, "a", "1")
	put(t, s, "a", "5", api.OK)
	idle()
	put(t, s, "a", "6", api.OK)
}

// P7.6: what was refused, by whatever error, changes nothing that is seen, nor what survives.
func TestRefusedUnseen(t *testing.T) {
	for _, f := range []api.Fault{{Kind: api.Refuse}, {Kind: api.Room, N: 3}, {Kind: api.Down}} {
		for _, o := range of("a", "4444", "e", "5555") {
			s := unsettled(t)
			strike(t, s, f)
			if e := s.Put(o); e == api.OK {
				t.Fatalf("%+v does not refuse", f)
			}
			sees(t, s, "a", "11", "b", "22", "d", "44")
			crash(t, s, 1, 1, -1, 9)
			sees(t, s, "a", "1", "b", "22", "c", "333", "d", "4")
		}
	}
	for _, f := range []api.Fault{{Kind: api.Refuse}, {Kind: api.Down}} {
		s := unsettled(t)
		strike(t, s, f)
		if e := s.Del("b"); e == api.OK {
			t.Fatalf("%+v does not refuse", f)
		}
		sees(t, s, "a", "11", "b", "22", "d", "44")
		crash(t, s, 1, 1, -1, 9)
		sees(t, s, "a", "1", "b", "22", "c", "333", "d", "4")
	}
}

// P7.2: Room: just enough, and one byte less; a room of 0; an object that is put over gives its bytes back.
func TestRoom(t *testing.T) {
	for size := range 6 {
		data := strings.Repeat("x", size)
		s := struck(t, []string{"a", "12", "m0", "manifest", "m1", "another one"}, api.Fault{Kind: api.Room, N: 2 + size, At: 3, C: 3})
		put(t, s.Copy(), "b", data, api.OK)
		put(t, s.Copy(), "b", data+"x", api.ErrFull)
		put(t, s.Copy(), "a", data+"xx", api.OK)
		put(t, s.Copy(), "a", data+"xxx", api.ErrFull)
		put(t, s, "b", data, api.OK)
		put(t, s, "c", "", api.OK)
		put(t, s, "d", "x", api.ErrFull)
		put(t, s, "b", data, api.OK)
		put(t, s, "b", data+"x", api.ErrFull)
		if size > 0 {
			strike(t, s, api.Fault{Kind: api.Room, N: 1 + size})
			put(t, s, "b", data, api.ErrFull)
			put(t, s, "b", data[1:], api.OK)
		}
	}
	s := struck(t, nil, api.Fault{Kind: api.Room})
	put(t, s, "a", "", api.OK)
	put(t, s, "a", "1", api.ErrFull)
	put(t, s, "b", strings.Repeat("x", api.MaxObject), api.ErrFull)
	sees(t, s, "a", "")
	s = struck(t, nil, api.Fault{Kind: api.Room, N: math.MaxInt})
	put(t, s, "a", strings.Repeat("x", api.MaxObject), api.OK)
	put(t, s, "b", strings.Repeat("x", api.MaxObject), api.OK)
}

// P7.2: m0 and m1 need no room and take none away; names that are like these do.
func TestRoomManifests(t *testing.T) {
	large := strings.Repeat("x", api.MaxObject)
	s := struck(t, nil, api.Fault{Kind: api.Room, N: 3})
	for _, name := range []string{"m0", "m1"} {
		put(t, s, name, large, api.OK)
		put(t, s, name, "1234", api.OK)
		del(t, s, name, api.OK)
		put(t, s, name, large, api.OK)
	}
	for _, name := range []string{"m", "m2", "m00", "m01", "M0", "M1", "0", "m0 ", " m1", "m-1"} {
		put(t, s, name, "1234", api.ErrFull)
		put(t, s, name, "123", api.OK)
		put(t, s, "x", "1", api.ErrFull)
		del(t, s, name, api.OK)
	}
	sync(t, s)
	strike(t, s, api.Fault{Kind: api.Room})
	put(t, s, "m0", large, api.OK)
	put(t, s, "x", "", api.OK)
}

// P7.2: what is seen counts, whether it stands for good or not: a del gives room, a Wipe and a Lose do; what is there stays if a room is smaller than that.
func TestRoomOfWhatIsSeen(t *testing.T) {
	s := struck(t, []string{"a", "333", "b", "22"}, api.Fault{Kind: api.Room, N: 5})
	put(t, s, "c", "1", api.ErrFull)
	del(t, s, "b", api.OK)
	put(t, s, "c", "123", api.ErrFull)
	put(t, s, "c", "12", api.OK)
	put(t, s, "b", "1", api.ErrFull)
	// The del does not survive, the put does: that is more than the room, and stays.
	crash(t, s, -1, 2)
	sees(t, s, "a", "333", "b", "22", "c", "12")
	put(t, s, "d", "", api.ErrFull)
	put(t, s, "a", "22", api.ErrFull)
	put(t, s, "a", "1", api.OK)
	strike(t, s, api.Fault{Kind: api.Room, N: 1})
	sees(t, s, "a", "1", "b", "22", "c", "12")
	put(t, s, "c", "", api.ErrFull)
	put(t, s, "m0", "12345", api.OK)
	strike(t, s, api.Fault{Kind: api.Lose, N: 1})
	put(t, s, "c", "", api.OK)
	put(t, s, "b", "1", api.ErrFull)
	strike(t, s, api.Fault{Kind: api.Wipe})
	put(t, s, "b", "1", api.OK)
	put(t, s, "c", "1", api.ErrFull)
}

// P7.2: a Room told anew holds alone, greater or smaller.
func TestRoomAnew(t *testing.T) {
	for _, first := range []int{0, 2, 4, 6} {
		s := struck(t, []string{"a", "12"}, api.Fault{Kind: api.Room, N: first}, api.Fault{Kind: api.Room, N: 4})
		put(t, s, "b", "123", api.ErrFull)
		put(t, s, "b", "12", api.OK)
		if !s.Sound() || !s.Up() {
			t.Error("a room makes it unsound")
		}
	}
}
