package quorum

import (
	"testing"

	"strongbox/api"
	"strongbox/world"
)

// book are the six calls by the chapter's words and nothing else: it looks at the stores as no call does, each time anew, and makes the calls that the words tell, one by one. The power's going is thrown.
type book struct{ w *world.World }

// dark is thrown where a call finds the power gone.
type dark struct{}

func must(e api.Errno) api.Errno {
	if e == api.ErrCut {
		panic(dark{})
	}
	return e
}

// sound is the replica in a slot of a store, if there is a sound one; no call is counted for it.
func (b book) sound(i int, slot string) (Best, bool) {
	for _, o := range b.w.Objects(i) {
		if o.Name == slot {
			m, is := manOf(o.Data)
			return m, is && m.Code.N == b.w.N()
		}
	}
	return Best{}, false
}

// gets are the calls by which m0 and m1 are got, store by store.
func (b book) gets() {
	for i := range b.w.N() {
		_, e := b.w.Get(i, "m0")
		must(e)
		_, e = b.w.Get(i, "m1")
		must(e)
	}
}

func (b book) answering() []int {
	var all []int
	for i := range b.w.N() {
		if b.w.Up(i) {
			all = append(all, i)
		}
	}
	return all
}

func lower(a, b api.Stamp) bool {
	return a.Epoch < b.Epoch || a.Epoch == b.Epoch && a.Gen < b.Gen
}

func (b book) newest() (Best, bool) {
	var all []Best
	for _, i := range b.answering() {
		for _, slot := range []string{"m0", "m1"} {
			if m, is := b.sound(i, slot); is {
				all = append(all, m)
			}
		}
	}
	for _, m := range all {
		highest := true
		for _, other := range all {
			highest = highest && !lower(m.Stamp, other.Stamp)
		}
		if highest {
			return m, true
		}
	}
	return Best{}, false
}

func (b book) has(i int, m Best) bool {
	m0, is0 := b.sound(i, "m0")
	m1, is1 := b.sound(i, "m1")
	return is0 && m0 == m || is1 && m1 == m
}

// put puts a manifest over a base into one store, and says whether it has taken it.
func (b book) put(i int, m Best, base api.Stamp) bool {
	m0, is0 := b.sound(i, "m0")
	m1, is1 := b.sound(i, "m1")
	slot := "m0"
	if is0 && m0.Stamp == base {
		slot = "m1"
	} else if is1 && m1.Stamp == base {
		slot = "m0"
	} else if is0 && (!is1 || lower(m1.Stamp, m0.Stamp)) {
		slot = "m1"
	}
	putting := must(b.w.Put(i, api.Object{Name: slot, Data: bytesOf(m)}))
	syncing := must(b.w.Sync(i))
	return putting == api.OK && syncing == api.OK
}

// putAll puts a manifest over a base to all that answer.
func (b book) putAll(m Best, base api.Stamp) (Best, api.Errno) {
	taken := 0
	for _, i := range b.answering() {
		if b.put(i, m, base) {
			taken++
		}
	}
	if taken < m.Code.K {
		return Best{}, api.ErrIO
	}
	return m, api.OK
}

func (b book) read() (Best, api.Errno) {
	b.gets()
	m, is := b.newest()
	answer := len(b.answering())
	if !is && answer < b.w.N() {
		return Best{}, api.ErrQuorum
	}
	if !is {
		return Best{}, api.ErrNone
	}
	if answer < b.w.N()-m.Code.K+1 {
		return Best{}, api.ErrQuorum
	}
	return m, api.OK
}

func (b book) open() (Best, api.Errno) {
	m, e := b.read()
	if e != api.OK {
		return Best{}, e
	}
	if len(b.answering()) < m.Code.K {
		return Best{}, api.ErrQuorum
	}
	if m.Stamp.Epoch == api.MaxCount {
		return Best{}, api.ErrTooLarge
	}
	have := 0
	for _, i := range b.answering() {
		if b.has(i, m) && must(b.w.Sync(i)) == api.OK || !b.has(i, m) && b.put(i, m, m.Stamp) {
			have++
		}
	}
	if have < m.Code.K {
		return Best{}, api.ErrIO
	}
	base := m.Stamp
	m.Stamp.Epoch++
	return b.putAll(m, base)
}

// hasBytes says what is wrong with a manifest by itself, by chapter 11.
func hasBytes(m Best) api.Errno {
	count := func(n int) bool { return 0 <= n && n <= api.MaxCount }
	c := m.Code
	if c.K < 1 || c.K > c.N || c.N > most || !count(m.Stamp.Epoch) || !count(m.Stamp.Gen) {
		return api.ErrArg
	}
	if len(m.Body) > room {
		return api.ErrTooLarge
	}
	return api.OK
}

// mayBe says what the words say of a manifest that Write and Init put, ahead of any call.
func (b book) mayBe(m Best) api.Errno {
	if m.Code.N != b.w.N() {
		return api.ErrArg
	}
	return hasBytes(m)
}

func (b book) write(base Best, body string) (Best, api.Errno) {
	m := base
	m.Body = body
	if e := b.mayBe(m); e != api.OK {
		return Best{}, e
	}
	m.Stamp.Gen++
	if m.Stamp.Gen > api.MaxCount {
		return Best{}, api.ErrTooLarge
	}
	b.gets()
	if len(b.answering()) < m.Code.K {
		return Best{}, api.ErrQuorum
	}
	return b.putAll(m, base.Stamp)
}

func (b book) init(c api.Code, body string) (Best, api.Errno) {
	m := Best{Stamp: stamp(1, 1), Code: c, Body: body}
	if e := b.mayBe(m); e != api.OK {
		return Best{}, e
	}
	b.gets()
	if _, is := b.newest(); is {
		return Best{}, api.ErrTwice
	}
	if len(b.answering()) < b.w.N() {
		return Best{}, api.ErrQuorum
	}
	return b.putAll(m, stamp(0, 0))
}

func (b book) bad(base Best) (Best, api.Errno) {
	b.gets()
	bad := 0
	for i := range b.w.N() {
		if !b.w.Up(i) || !b.has(i, base) {
			bad++
		}
	}
	return count(bad), api.OK
}

func (b book) mend(base Best) (Best, api.Errno) {
	b.gets()
	e := api.OK
	for i := range b.w.N() {
		if !b.w.Up(i) || !b.has(i, base) && (hasBytes(base) != api.OK || !b.put(i, base, base.Stamp)) {
			e = api.ErrIO
		}
	}
	return Best{}, e
}

// cut is what a call of the book answers, ErrCut if it was thrown.
func cut(do func() (Best, api.Errno)) (m Best, e api.Errno) {
	defer func() {
		switch thrown := recover(); thrown.(type) {
		case nil:
		case dark:
			m, e = Best{}, api.ErrCut
		default:
			panic(thrown)
		}
	}()
	return do()
}

// pair is a call, and the book's.
type pair struct {
	call
	book func(b book) (Best, api.Errno)
}

// pairs are the six, over a base.
func pairs(base Best, body string) []pair {
	return []pair{
		{reading(), book.read},
		{opening(), book.open},
		{writing(base, body), func(b book) (Best, api.Errno) { return b.write(base, body) }},
		{starting(base.Code, body), func(b book) (Best, api.Errno) { return b.init(base.Code, body) }},
		{counting(base), func(b book) (Best, api.Errno) { return b.bad(base) }},
		{mending(base), func(b book) (Best, api.Errno) { return b.mend(base) }},
	}
}

// asBook does a call with a world, and with the book's, and fails if what is answered, what is called or what comes of it is not the same.
func asBook(t *testing.T, w *world.World, b book, p pair) (Best, api.Errno) {
	t.Helper()
	want, we := cut(func() (Best, api.Errno) { return p.book(b) })
	got, e := p.do(w)
	if got != want || e != we {
		t.Fatalf("%s: %s, %d, not %s, %d", p.name, brief(got), e, brief(want), we)
	}
	same(t, w.Calls(), b.w.Calls())
	same(t, w.Dark(), b.w.Dark())
	alike(t, w, b.w)
	return got, e
}

// dice are numbers that are the same ones each time.
type dice struct{ x uint64 }

func (d *dice) below(n int) int {
	d.x = d.x*6364136223846793005 + 1442695040888963407
	return int(d.x>>33) % n
}

func (d *dice) fault(n int) api.Fault {
	kinds := []uint8{api.Wipe, api.Lose, api.Bend, api.Down, api.Up, api.Up, api.Refuse, api.Refuse, api.Room}
	f := api.Fault{Kind: kinds[d.below(len(kinds))], Store: d.below(n), N: d.below(2), At: d.below(60), C: d.below(256)}
	if f.Kind == api.Refuse {
		f.N = d.below(3)
	}
	return f
}

func (d *dice) survives(n int) []api.Survive {
	l := make([]api.Survive, d.below(n+2))
	for i := range l {
		for range d.below(5) {
			l[i].Keep = append(l[i].Keep, []int{-1, 0, 20, 51, api.MaxObject, api.MaxObject}[d.below(6)])
		}
	}
	return l
}

// count is an epoch or a generation, mostly a small one.
func (d *dice) count() int {
	if d.below(20) == 0 {
		return []int{api.MaxCount, api.MaxCount - 1, api.MaxCount + 1, -1}[d.below(4)]
	}
	return d.below(4)
}

// body is one that is mostly small, and may be too large.
func (d *dice) body() string {
	if d.below(30) == 0 {
		return sample(room+d.below(2), 2)
	}
	return []string{"y", "z"}[d.below(2)]
}

// base is a manifest that may be wrong, and may be some store's.
func (d *dice) base(n int) Best {
	m := Best{Stamp: stamp(d.count(), d.count()), Code: two(1+d.below(n), n), Body: []string{"x", "y"}[d.below(2)]}
	switch d.below(30) {
	case 0:
		m.Code.N++
	case 1:
		m.Code.K = 0
	case 2:
		m.Body = sample(room+d.below(2), 1)
	}
	return m
}

// trouble does something with a world, and with the book's, that is none of the six calls.
func trouble(t *testing.T, d *dice, w *world.World, b book) {
	t.Helper()
	n := w.N()
	switch d.below(5) {
	case 0:
		after := d.below(6*n + 1)
		w.Cut(after)
		b.w.Cut(after)
	case 1:
		l := d.survives(n)
		w.Crash(l)
		b.w.Crash(l)
	case 2, 3:
		f := d.fault(n)
		same(t, w.Strike(f), b.w.Strike(f))
	case 4:
		m := d.base(n)
		m.Stamp = stamp(d.below(4), d.below(4))
		o := api.Object{Name: []string{"m0", "m1"}[d.below(2)], Data: bytesOf(m)}
		i := d.below(n)
		same(t, w.Put(i, o), b.w.Put(i, o))
		if d.below(2) == 0 {
			same(t, w.Sync(i), b.w.Sync(i))
		}
	}
}

// P12.1, P12.2: whatever happened to the stores, what is answered, what is called and what comes of it is as the book has it.
func TestAsTheBook(t *testing.T) {
	met := map[string]map[api.Errno]int{}
	for seed := range 3000 {
		d := &dice{uint64(seed)}
		n := 1 + seed%5
		if seed%10 == 9 {
			n = 1 + d.below(most)
		}
		w := of(t, n)
		b := book{of(t, n)}
		base := d.base(n)
		for range 30 {
			if d.below(2) == 0 {
				trouble(t, d, w, b)
				continue
			}
			if d.below(8) == 0 {
				base = d.base(n)
			}
			p := pairs(base, d.body())[d.below(6)]
			m, e := asBook(t, w, b, p)
			if e == api.OK && m.Code.N > 0 {
				base = m
			}
			if met[p.name] == nil {
				met[p.name] = map[api.Errno]int{}
			}
			met[p.name][e]++
		}
	}
	for name, all := range map[string][]api.Errno{
		"Read":  {api.OK, api.ErrCut, api.ErrQuorum, api.ErrNone},
		"Open":  {api.OK, api.ErrCut, api.ErrQuorum, api.ErrNone, api.ErrTooLarge, api.ErrIO},
		"Write": {api.OK, api.ErrArg, api.ErrTooLarge, api.ErrCut, api.ErrQuorum, api.ErrIO},
		"Init":  {api.OK, api.ErrArg, api.ErrTooLarge, api.ErrCut, api.ErrTwice, api.ErrQuorum, api.ErrIO},
		"Bad":   {api.OK, api.ErrCut},
		"Mend":  {api.OK, api.ErrCut, api.ErrIO},
	} {
		for _, e := range all {
			if met[name][e] < 20 {
				t.Errorf("%s: error %d was met %d times", name, e, met[name][e])
			}
		}
		same(t, len(met[name]), len(all))
	}
}
