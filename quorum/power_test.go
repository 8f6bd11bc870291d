package quorum

import (
	"slices"
	"strings"
	"testing"
	"unsafe"

	"strongbox/api"
	"strongbox/world"
)

// troubled are worlds of a code, over a manifest that all stores had, or had not yet; and that manifest.
func troubled(t *testing.T, c api.Code) ([]*world.World, Best) {
	t.Helper()
	whole, b := begun(t, c, "older", "old")
	all := []*world.World{whole, of(t, c.N)}
	last := c.N - 1
	for _, f := range []api.Fault{wipe(0), wipe(last), down(0), down(last), refusing(0, 0), refusing(last, 1), {Kind: api.Lose, Store: last, N: 1}, {Kind: api.Lose, N: 0}} {
		w := whole.Copy()
		strike(t, w, f)
		all = append(all, w)
	}
	// Newer ones that stand on one store alone, not for good on the other one.
	w := whole.Copy()
	newer := b
	newer.Stamp.Gen, newer.Body = 3, "newer"
	same(t, w.Put(last, api.Object{Name: "m0", Data: bytesOf(newer)}), api.OK)
	all = append(all, w, w.Copy())
	strike(t, w, wipe(0))
	return all, b
}

// A cut at each single call of each of the six: ErrCut, nothing told, no call more, and the stores as the book has them; with a cut behind the last one it is not met.
func TestCutAtEachCall(t *testing.T) {
	for _, c := range few() {
		worlds, b := troubled(t, c)
		for _, whole := range worlds {
			for _, p := range pairs(b, "new") {
				free := whole.Copy()
				want, we := p.do(free)
				calls := free.Calls() - whole.Calls()
				for after := range calls {
					w, own := whole.Copy(), book{whole.Copy()}
					same(t, w.Cut(after), api.OK)
					same(t, own.w.Cut(after), api.OK)
					got, e := asBook(t, w, own, p)
					same(t, got, Best{})
					same(t, e, api.ErrCut)
					same(t, w.Calls()-whole.Calls(), after+1)
					same(t, w.Dark(), true)
					refuses(t, w, p.call, api.ErrCut, 1)
				}
				w := whole.Copy()
				same(t, w.Cut(calls), api.OK)
				got, e := p.do(w)
				same(t, got, want)
				same(t, e, we)
				same(t, w.Dark(), false)
				alike(t, w, free)
			}
		}
	}
}

// Without the power each call answers ErrCut at its first call, be there stores that do not answer or not, and replicas or not.
func TestDark(t *testing.T) {
	for _, c := range few() {
		worlds, b := troubled(t, c)
		for _, w := range worlds {
			darken(t, w)
			for _, order := range sixOver(b) {
				refuses(t, w, order, api.ErrCut, 1)
			}
		}
	}
}

// sturdy are codes by which what was taken is found: 2K is above N.
func sturdy() []api.Code {
	return []api.Code{{K: 1, N: 1}, {K: 2, N: 2}, {K: 2, N: 3}, {K: 3, N: 3}, {K: 3, N: 4}, {K: 3, N: 5}, {K: 4, N: 5}, {K: 4, N: 6}, {K: 4, N: 7}, {K: 7, N: 12}}
}

// survivals are what may survive of each store's writes: nothing, no byte, some, all but one, all.
func survivals(n int) [][]api.Survive {
	var all [][]api.Survive
	for _, keep := range []int{-1, 0, 30, 52, api.MaxObject} {
		all = append(all, slices.Repeat([]api.Survive{{Keep: slices.Repeat([]int{keep}, 3)}}, n))
	}
	return all
}

// start is a world over which something is written: its base, and which stores are suspect.
type start struct {
	w        *world.World
	base     Best
	suspects int
}

// starts are worlds in which stores of one choice lack the base, by each of the ways in which they may.
func starts(t *testing.T, c api.Code) []start {
	t.Helper()
	w, b := begun(t, c, "old")
	all := []start{{w, b, 0}}
	w, b = begun(t, c, "older", "old")
	all = append(all, start{w, b, 0})
	for _, which := range []int{1<<(c.N-c.K) - 1, (1<<(c.N-c.K) - 1) << c.K} {
		w, b = begun(t, c, "oldest", "older", "old")
		strikeAll(t, w, which, wipe)
		all = append(all, start{w, b, which})

		w, b = begun(t, c, "oldest", "older")
		strikeAll(t, w, which, down)
		b, e := Write(w, b, "old")
		same(t, e, api.OK)
		w = w.Copy()
		strikeAll(t, w, which, up)
		all = append(all, start{w, b, which})
		opened := w.Copy()
		b, e = Open(opened)
		same(t, e, api.OK)
		all = append(all, start{opened, b, which})
	}
	return all
}

// cutOff are the worlds in which a call was cut off at each of its calls, or not at all, with what it told, and what survived a crash then; each is handed to next.
func cutOff(t *testing.T, w *world.World, do func(w *world.World) (Best, api.Errno), next func(w *world.World, told Best, done bool)) {
	t.Helper()
	for after := 0; ; after++ {
		was := w.Copy()
		same(t, was.Cut(after), api.OK)
		told, e := do(was)
		if e != api.OK {
			same(t, e, api.ErrCut)
		}
		for _, l := range survivals(w.N()) {
			behind := was.Copy()
			same(t, behind.Crash(l), api.OK)
			next(behind, told, e == api.OK)
		}
		if e == api.OK {
			return
		}
	}
}

// P12.3: what Write answered OK is what Open finds behind a crash, whatever survives, and whichever N - K stores are wiped, or silent; behind one that was cut off Open finds the base's body, or the new one. What it found stays found, also when stores answer again.
func TestTakenIsFound(t *testing.T) {
	for _, c := range sturdy()[:8] {
		for _, s := range starts(t, c) {
			order := writing(s.base, "new")
			cutOff(t, s.w, order.do, func(w *world.World, _ Best, done bool) {
				for _, which := range choices(c.N, 0, c.N-c.K) {
					if ones(which|s.suspects) > c.N-c.K {
						continue
					}
					wiped := w.Copy()
					strikeAll(t, wiped, which, wipe)
					stays(t, wiped, found(t, wiped, done))
					silent := w.Copy()
					strikeAll(t, silent, which, down)
					body := found(t, silent, done)
					strikeAll(t, silent, which, up)
					stays(t, silent, body)
				}
			})
		}
	}
}

// found is the body that Open finds behind a Write of new over old, which was done or not.
func found(t *testing.T, w *world.World, done bool) string {
	t.Helper()
	m, e := Open(w)
	same(t, e, api.OK)
	if m.Body != "new" && (done || m.Body != "old") {
		t.Fatalf("found %s, done %t", brief(m), done)
	}
	return m.Body
}

// stays fails if not that body is found behind a crash, and opened.
func stays(t *testing.T, w *world.World, body string) {
	t.Helper()
	same(t, w.Crash(nil), api.OK)
	m, e := Read(w)
	same(t, e, api.OK)
	same(t, m.Body, body)
	m, e = Open(w)
	same(t, e, api.OK)
	same(t, m.Body, body)
}

// P12.4: a Write that was cut off, then an Open that was, with some stores silent: what was opened OK is what is found by another one, whichever are silent then.
func TestChosenOnce(t *testing.T) {
	for _, c := range []api.Code{{K: 2, N: 2}, {K: 2, N: 3}} {
		s := starts(t, c)[1]
		cutOff(t, s.w, writing(s.base, "new").do, func(w *world.World, _ Best, done bool) {
			for _, silent := range choices(c.N, 0, c.N-c.K) {
				first := w.Copy()
				strikeAll(t, first, silent, down)
				cutOff(t, first, Open, func(w *world.World, opened Best, chosen bool) {
					strikeAll(t, w, silent, up)
					for _, then := range choices(c.N, 0, c.N-c.K) {
						if ones(silent|then) > c.N-c.K {
							continue
						}
						second := w.Copy()
						strikeAll(t, second, then, down)
						body := found(t, second, done)
						if chosen {
							same(t, body, opened.Body)
						}
						strikeAll(t, second, then, up)
						stays(t, second, body)
					}
				})
			}
		})
	}
}

// tale is what a vault's life is to be, while no more than N - K stores are suspect: what may be found, and, while it is open, over what is written.
type tale struct {
	w    *world.World
	c    api.Code
	d    *dice
	may  []string
	base Best
	open bool
	next int
}

// told is a body that there was none of yet.
func (s *tale) told() string {
	s.next++
	return "body " + strings.Repeat("i", s.next%7) + string(rune('a'+s.next%26)) + string(rune('a'+s.next/26%26))
}

// mayCut says a cut, now and then.
func (s *tale) mayCut() {
	if s.d.below(2) == 0 {
		s.w.Cut(s.d.below(6*s.c.N + 1))
	}
}

// crash closes it; behind it there is no cut.
func (s *tale) crash() {
	s.w.Crash(s.d.survives(s.c.N))
	s.open = false
}

// fault strikes a store, if no more than N - K are suspect then.
func (s *tale) fault(t *testing.T) {
	t.Helper()
	f := s.d.fault(s.c.N)
	suspects := s.w.Suspects()
	if slices.Contains(suspects, f.Store) || len(suspects) < s.c.N-s.c.K || f.Kind == api.Up || f.Kind == api.Room {
		strike(t, s.w, f)
	}
}

// opens opens it: it is never refused, and finds what may be found.
func (s *tale) opens(t *testing.T) {
	t.Helper()
	s.mayCut()
	m, e := Open(s.w)
	if e == api.ErrCut {
		s.crash()
		return
	}
	same(t, e, api.OK)
	if !slices.Contains(s.may, m.Body) {
		t.Fatalf("found %s, not one of %q", brief(m), s.may)
	}
	s.may, s.base, s.open = []string{m.Body}, m, true
}

// writes writes over the base: it is never refused.
func (s *tale) writes(t *testing.T) {
	t.Helper()
	s.mayCut()
	body := s.told()
	m, e := Write(s.w, s.base, body)
	if e == api.ErrCut {
		s.may = append(s.may, body)
		s.crash()
		return
	}
	same(t, e, api.OK)
	same(t, m, Best{Stamp: stamp(s.base.Stamp.Epoch, s.base.Stamp.Gen+1), Code: s.c, Body: body})
	s.may, s.base = []string{body}, m
}

// mends makes it whole, and clears the suspects, if it could.
func (s *tale) mends(t *testing.T) {
	t.Helper()
	s.mayCut()
	switch e := Mend(s.w, s.base); e {
	case api.OK:
		s.w.Clear()
	case api.ErrCut:
		s.crash()
	default:
		same(t, e, api.ErrIO)
		same(t, len(s.w.Suspects()) > 0, true)
	}
}

// reads reads it: it is never refused, and finds what may be found; while it is open, just the base.
func (s *tale) reads(t *testing.T) {
	t.Helper()
	w := s.w.Copy()
	if w.Crash(s.d.survives(s.c.N)); !s.open {
		w = s.w
	}
	m, e := Read(w)
	same(t, e, api.OK)
	if s.open {
		same(t, m, s.base)
	} else if !slices.Contains(s.may, m.Body) {
		t.Fatalf("read %s, not one of %q", brief(m), s.may)
	}
}

// goesOn does one step.
func (s *tale) goesOn(t *testing.T) {
	t.Helper()
	switch what := s.d.below(10); {
	case what < 3:
		s.fault(t)
	case !s.open:
		s.reads(t)
		s.opens(t)
	case what < 7:
		s.writes(t)
	case what == 7:
		s.mends(t)
	case what == 8:
		s.crash()
	default:
		s.reads(t)
	}
	if s.open {
		// A cut that was not met is none any more.
		s.w.Cut(1 << 20)
		s.reads(t)
	}
}

// P12.3, P12.4 (P2): whatever is cut off, survives, is lost and silent, while no more than N - K stores are suspect at any time.
func TestTales(t *testing.T) {
	for seed := range 4000 {
		c := sturdy()[seed%10]
		w, b := begun(t, c, "first")
		s := &tale{w: w, c: c, d: &dice{uint64(seed)}, may: []string{"first"}, base: b, open: true}
		for range 40 {
			s.goesOn(t)
		}
	}
}

// within says whether a text's bytes are some of a list's.
func within(part string, whole []byte) bool {
	at := uintptr(unsafe.Pointer(unsafe.StringData(part)))
	from := uintptr(unsafe.Pointer(unsafe.SliceData(whole)))
	return len(part) > 0 && at >= from && at < from+uintptr(len(whole))
}

// Nothing that was handed in is changed or kept, in the stores or in what is told.
func TestNothingKept(t *testing.T) {
	w := of(t, 3)
	c := two(2, 3)
	room := []byte("first body, and room behind it")
	lent := func(n int) string { return unsafe.String(unsafe.SliceData(room), n) }
	check := func(told Best, e api.Errno, want Best) {
		t.Helper()
		same(t, e, api.OK)
		same(t, string(room), "first body, and room behind it")
		same(t, within(told.Body, room), false)
		for i := range 3 {
			for _, o := range w.Objects(i) {
				same(t, within(o.Data, room), false)
			}
		}
		clear(room)
		same(t, told, want)
		does(t, w, reading(), want, api.OK, 6)
		copy(room, "first body, and room behind it")
	}
	b, e := Init(w, c, lent(10))
	check(b, e, man(1, 1, "first body"))
	b, e = Write(w, b, lent(5))
	check(b, e, man(1, 2, "first"))
	strike(t, w, wipe(1))
	b.Body = lent(5)
	n, e := Bad(w, b)
	same(t, n, 1)
	same(t, e, api.OK)
	e = Mend(w, b)
	check(man(1, 2, "first"), e, man(1, 2, "first"))
	b, e = Open(w)
	check(b, e, man(2, 2, "first"))
	does(t, w, counting(b), Best{}, api.OK, 6)
}
