package quorum

import (
	"crypto/sha256"
	"encoding/binary"
	"fmt"
	"math"
	"slices"
	"testing"

	"strongbox/api"
	"strongbox/world"
)

const (
	most = api.MaxStores
	// room is how long a body may be.
	room = api.MaxObject - 50
)

// of is a world of n stores.
func of(t *testing.T, n int) *world.World {
	t.Helper()
	w, e := world.New(n)
	same(t, e, api.OK)
	return w
}

// same fails if what was got is not what is asked for.
func same[A comparable](t *testing.T, got, want A) {
	t.Helper()
	if got != want {
		t.Fatalf("%s, not %s", brief(got), brief(want))
	}
}

// brief is what is told of a thing that may be long.
func brief(a any) string {
	text := fmt.Sprintf("%+v", a)
	return fmt.Sprintf("%q", text[:min(len(text), 200)])
}

// sample are n bytes of all kinds, the same ones each time; seed says which.
func sample(n, seed int) string {
	b := make([]byte, n)
	x := uint32(seed)*2654435761 + 1
	for i := range b {
		x = x*1664525 + 1013904223
		b[i] = byte(x >> 24)
	}
	return string(b)
}

func stamp(epoch, gen int) api.Stamp { return api.Stamp{Epoch: epoch, Gen: gen} }

func two(k, n int) api.Code { return api.Code{K: k, N: n} }

// man is a manifest of three stores, of which two are enough.
func man(epoch, gen int, body string) Best {
	return Best{Stamp: stamp(epoch, gen), Code: two(2, 3), Body: body}
}

// bytesOf are a manifest's, straight by chapter 11.
func bytesOf(m Best) string {
	b := []byte("man1")
	b = binary.BigEndian.AppendUint32(b, uint32(m.Stamp.Epoch))
	b = binary.BigEndian.AppendUint32(b, uint32(m.Stamp.Gen))
	b = append(b, byte(m.Code.K), byte(m.Code.N))
	b = binary.BigEndian.AppendUint32(b, uint32(len(m.Body)))
	b = append(b, m.Body...)
	d := sha256.Sum256(b)
	return string(b) + string(d[:])
}

// manOf says of bytes by chapter 11 whether they are a manifest's, and which.
func manOf(data string) (Best, bool) {
	if len(data) < 50 || len(data) > 65536 {
		return Best{}, false
	}
	number := func(at int) int { return int(binary.BigEndian.Uint32([]byte(data[at : at+4]))) }
	m := Best{Stamp: stamp(number(4), number(8)), Code: two(int(data[12]), int(data[13])), Body: data[18 : len(data)-32]}
	may := m.Stamp.Epoch <= math.MaxInt32 && m.Stamp.Gen <= math.MaxInt32 && 1 <= m.Code.K && m.Code.K <= m.Code.N && m.Code.N <= 12
	return m, may && bytesOf(m) == data
}

// few are codes of so few stores that each choice of these can be gone through.
func few() []api.Code {
	return []api.Code{{K: 1, N: 1}, {K: 1, N: 2}, {K: 2, N: 2}, {K: 1, N: 3}, {K: 2, N: 3}, {K: 3, N: 3}, {K: 3, N: 4}, {K: 3, N: 5}, {K: 2, N: 5}, {K: 4, N: 6}}
}

// codes are all that may be.
func codes() []api.Code {
	var all []api.Code
	for n := 1; n <= most; n++ {
		for k := 1; k <= n; k++ {
			all = append(all, two(k, n))
		}
	}
	return all
}

// ones is how many of a number's bits are 1.
func ones(which int) int {
	n := 0
	for ; which > 0; which >>= 1 {
		n += which & 1
	}
	return n
}

// choices are those of n things, by the bits that are 1, in which at least so many are chosen and at most so many.
func choices(n, least, atMost int) []int {
	var all []int
	for which := range 1 << n {
		if k := ones(which); least <= k && k <= atMost {
			all = append(all, which)
		}
	}
	return all
}

func in(which, i int) bool { return which>>i&1 == 1 }

// put puts data into a slot by itself, and syncs it.
func put(t *testing.T, w *world.World, i int, slot, data string) {
	t.Helper()
	same(t, w.Put(i, api.Object{Name: slot, Data: data}), api.OK)
	same(t, w.Sync(i), api.OK)
}

// lay puts manifests into a store's slots by themselves, for good; one of no code is none.
func lay(t *testing.T, w *world.World, i int, m0, m1 Best) {
	t.Helper()
	for slot, m := range []Best{m0, m1} {
		if m.Code.N > 0 {
			put(t, w, i, []string{"m0", "m1"}[slot], bytesOf(m))
		}
	}
}

func strike(t *testing.T, w *world.World, f api.Fault) {
	t.Helper()
	same(t, w.Strike(f), api.OK)
}

func wipe(i int) api.Fault { return api.Fault{Kind: api.Wipe, Store: i} }

func down(i int) api.Fault { return api.Fault{Kind: api.Down, Store: i} }

func up(i int) api.Fault { return api.Fault{Kind: api.Up, Store: i} }

// refusing has the write refused that comes behind so many.
func refusing(i, behind int) api.Fault { return api.Fault{Kind: api.Refuse, Store: i, N: behind} }

// strikeAll strikes those stores that are chosen.
func strikeAll(t *testing.T, w *world.World, which int, fault func(i int) api.Fault) {
	t.Helper()
	for i := range w.N() {
		if in(which, i) {
			strike(t, w, fault(i))
		}
	}
}

// darken takes the power away.
func darken(t *testing.T, w *world.World) {
	t.Helper()
	w.Cut(0)
	same(t, w.Sync(0), api.ErrCut)
	same(t, w.Dark(), true)
}

// holds fails if a store has other objects than these texts: a name, its data, and so on.
func holds(t *testing.T, w *world.World, i int, want ...string) {
	t.Helper()
	var got []string
	for _, o := range w.Objects(i) {
		got = append(got, o.Name, o.Data)
	}
	if !slices.Equal(got, want) {
		t.Fatalf("seen of %d: %.400q, not %.400q", i, got, want)
	}
}

// alike fails if two worlds' stores have not the same objects, now and behind the power's going, whether all survives or nothing.
func alike(t *testing.T, a, b *world.World) {
	t.Helper()
	whole := make([]api.Survive, a.N())
	for i := range whole {
		whole[i].Keep = slices.Repeat([]int{api.MaxObject}, 50)
	}
	sameSeen(t, a, b)
	for _, survives := range [][]api.Survive{nil, whole} {
		a, b := a.Copy(), b.Copy()
		a.Crash(survives)
		b.Crash(survives)
		sameSeen(t, a, b)
	}
}

func sameSeen(t *testing.T, a, b *world.World) {
	t.Helper()
	for i := range b.N() {
		if got, want := a.Objects(i), b.Objects(i); !slices.Equal(got, want) {
			t.Fatalf("seen of %d: %.400q, not %.400q", i, got, want)
		}
	}
}

// call is one of the six, with what it is handed besides the world; what is told in a Best is all that is told but the error.
type call struct {
	name string
	do   func(w *world.World) (Best, api.Errno)
}

func reading() call { return call{"Read", Read} }

func opening() call { return call{"Open", Open} }

func writing(base Best, body string) call {
	return call{"Write", func(w *world.World) (Best, api.Errno) { return Write(w, base, body) }}
}

func starting(c api.Code, body string) call {
	return call{"Init", func(w *world.World) (Best, api.Errno) { return Init(w, c, body) }}
}

// counting tells the number as the Gen of a Best.
func counting(base Best) call {
	return call{"Bad", func(w *world.World) (Best, api.Errno) {
		n, e := Bad(w, base)
		return Best{Stamp: stamp(0, n)}, e
	}}
}

func mending(base Best) call {
	return call{"Mend", func(w *world.World) (Best, api.Errno) { return Best{}, Mend(w, base) }}
}

// sixOver are all six calls, over a base.
func sixOver(base Best) []call {
	return []call{reading(), opening(), writing(base, "new"), starting(base.Code, "new"), counting(base), mending(base)}
}

// does fails if a call is answered otherwise, or makes not so many calls of the world.
func does(t *testing.T, w *world.World, c call, want Best, e api.Errno, calls int) {
	t.Helper()
	was := w.Calls()
	got, ge := c.do(w)
	if got != want || ge != e {
		t.Fatalf("%s: %s, %d, not %s, %d", c.name, brief(got), ge, brief(want), e)
	}
	if got := w.Calls() - was; got != calls {
		t.Fatalf("%s: %d calls, not %d", c.name, got, calls)
	}
}

// refuses fails if a call is not refused by an error, with nothing told and nothing changed.
func refuses(t *testing.T, w *world.World, c call, e api.Errno, calls int) {
	t.Helper()
	was := w.Copy()
	does(t, w, c, Best{}, e, calls)
	if w != nil {
		alike(t, w, was)
	}
}

// begun is a world in which a manifest was put by Init, and others by Write behind it.
func begun(t *testing.T, c api.Code, bodies ...string) (*world.World, Best) {
	t.Helper()
	w := of(t, c.N)
	b, e := Init(w, c, bodies[0])
	same(t, e, api.OK)
	for _, body := range bodies[1:] {
		b, e = Write(w, b, body)
		same(t, e, api.OK)
	}
	return w, b
}
