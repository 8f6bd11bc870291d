package health

import (
	"crypto/sha256"
	"math"
	"slices"
	"strings"
	"testing"
	"unsafe"

	"strongbox/api"
	"strongbox/code"
	"strongbox/shard"
	"strongbox/world"
)

const most = api.MaxStores

// of is a world of n stores.
func of(t *testing.T, n int) *world.World {
	t.Helper()
	w, e := world.New(n)
	same(t, e, api.OK)
	return w
}

// same fails if what was got is not what is asked for.
func same[A comparable](t *testing.T, got, want A) {
	t.Helper()
	if got != want {
		t.Fatalf("%#v, not %#v", got, want)
	}
}

func sum(s string) string {
	d := sha256.Sum256([]byte(s))
	return string(d[:])
}

// sample are n bytes of all kinds, the same ones each time; seed says which.
func sample(n, seed int) string {
	b := make([]byte, n)
	x := uint32(seed)*2654435761 + 1
	for i := range b {
		x = x*1664525 + 1013904223
		b[i] = byte(x >> 24)
	}
	return string(b)
}

// blobs are of no byte, of one, and so on, up to the longest one.
func blobs() []string {
	return []string{"", "\x00", "a", "blob", sample(7, 1), sample(8, 2), sample(1000, 3), strings.Repeat("\x00", 500), sample(api.MaxBlob-1, 4), sample(api.MaxBlob, 5)}
}

// codes are some of each number of stores.
func codes() []api.Code {
	var all []api.Code
	for n := 1; n <= most; n++ {
		for k := 1; k <= n; k++ {
			if k == 1 || k == n || k == n/2+1 {
				all = append(all, api.Code{K: k, N: n})
			}
		}
	}
	return all
}

// few are codes of so few stores that each choice of these can be gone through.
func few() []api.Code {
	return []api.Code{{K: 1, N: 1}, {K: 1, N: 3}, {K: 2, N: 3}, {K: 3, N: 3}, {K: 3, N: 5}, {K: 4, N: 6}, {K: 2, N: 7}}
}

// shardOf is the object of a blob's shard, whose digest may be told otherwise than it is.
func shardOf(t *testing.T, c api.Code, blob, digest string, i int) api.Object {
	t.Helper()
	payloads, e := code.Encode(c, blob)
	same(t, e, api.OK)
	o, e := shard.Make(shard.Shard{Code: c, Digest: digest, Index: i, Payload: payloads[i]})
	same(t, e, api.OK)
	return o
}

// own is the object that store i is to have of a blob.
func own(t *testing.T, c api.Code, blob string, i int) api.Object {
	t.Helper()
	return shardOf(t, c, blob, sum(blob), i)
}

// put puts an object by itself, and syncs it.
func put(t *testing.T, w *world.World, i int, o api.Object) {
	t.Helper()
	same(t, w.Put(i, o), api.OK)
	same(t, w.Sync(i), api.OK)
}

// laid is a world whose stores have a blob's shards, for good, those that a text of + and - says.
func laid(t *testing.T, c api.Code, blob, which string) *world.World {
	t.Helper()
	w := of(t, c.N)
	for i := range c.N {
		if which[i] == '+' {
			put(t, w, i, own(t, c, blob, i))
		}
	}
	return w
}

// signs is a + for each of the stores below n, then a - for each other one.
func signs(n, of int) string { return strings.Repeat("+", n) + strings.Repeat("-", of-n) }

// bits is a + for each of n bits that is 1, from the lowest one on.
func bits(which, n int) string {
	text := ""
	for i := range n {
		text += string("-+"[which>>i&1])
	}
	return text
}

func plus(text string) int { return strings.Count(text, "+") }

func strike(t *testing.T, w *world.World, f api.Fault) {
	t.Helper()
	same(t, w.Strike(f), api.OK)
}

func wipe(i int) api.Fault { return api.Fault{Kind: api.Wipe, Store: i} }

func down(i int) api.Fault { return api.Fault{Kind: api.Down, Store: i} }

func up(i int) api.Fault { return api.Fault{Kind: api.Up, Store: i} }

// full leaves a store no room.
func full(i int) api.Fault { return api.Fault{Kind: api.Room, Store: i} }

func refusing(i int) api.Fault { return api.Fault{Kind: api.Refuse, Store: i} }

// tells fails if those that are sound are not those of a text, or if not each store was asked once.
func tells(t *testing.T, w *world.World, c api.Code, digest, want string) {
	t.Helper()
	was := w.Calls()
	got, e := Of(w, c, digest)
	text := ""
	for _, is := range got {
		if is {
			text += "+"
		} else {
			text += "-"
		}
	}
	if e != api.OK || text != want {
		t.Fatalf("Of: %s, %d, not %s", text, e, want)
	}
	same(t, w.Calls()-was, c.N)
}

// sees fails if a store has other objects than these.
func sees(t *testing.T, w *world.World, i int, want ...api.Object) {
	t.Helper()
	if got := w.Objects(i); !slices.Equal(got, want) {
		t.Fatalf("seen of %d: %.300q, not %.300q", i, got, want)
	}
}

// alike fails if two worlds' stores have not the same objects, now and behind the power's going, whether all survives or nothing.
func alike(t *testing.T, a, b *world.World) {
	t.Helper()
	whole := make([]api.Survive, a.N())
	for i := range whole {
		whole[i].Keep = slices.Repeat([]int{api.MaxObject}, 50)
	}
	sameSeen(t, a, b)
	for _, survives := range [][]api.Survive{nil, whole} {
		a, b := a.Copy(), b.Copy()
		a.Crash(survives)
		b.Crash(survives)
		sameSeen(t, a, b)
	}
}

func sameSeen(t *testing.T, a, b *world.World) {
	t.Helper()
	for i := range b.N() {
		sees(t, a, i, b.Objects(i)...)
	}
}

// The chapter's examples.
func TestExamples(t *testing.T) {
	c := api.Code{K: 2, N: 3}
	d := sum("blob")
	w := laid(t, c, "blob", "+++")
	strike(t, w, wipe(1))
	tells(t, w, c, d, "+-+")
	mends(t, w, c, d, 1, api.OK, 5)
	tells(t, w, c, d, "+++")
	strike(t, w, wipe(0))
	strike(t, w, wipe(2))
	mends(t, w, c, d, 0, api.ErrLost, 3)
}

// refuses fails if both calls do not answer ErrArg and nothing else, or if a call was counted.
func refuses(t *testing.T, w *world.World, c api.Code, digest string) {
	t.Helper()
	was := w.Calls()
	all, e := Of(w, c, digest)
	n, me := Mend(w, c, digest)
	if len(all) != 0 || e != api.ErrArg || n != 0 || me != api.ErrArg || w.Calls() != was {
		t.Fatalf("code %v, digest %.40x: Of: %v, %d; Mend: %d, %d; %d calls", c, digest, all, e, n, me, w.Calls()-was)
	}
}

// No world is a wrong argument, not a nil object.
func TestNoWorld(t *testing.T) {
	for _, c := range []api.Code{{K: 2, N: 3}, {K: 1, N: 1}, {}, {K: 1, N: 13}} {
		for _, digest := range []string{"", sum("blob"), strings.Repeat("a", 33)} {
			refuses(t, nil, c, digest)
			// One that no call made has no stores: no code is its.
			refuses(t, &world.World{}, c, digest)
		}
	}
}

// Codes that may not be, or that have not as many shards as there are stores; also without the power.
func TestWrongCodes(t *testing.T) {
	for n := 1; n <= most; n++ {
		w := of(t, n)
		wrong := []api.Code{{}, {K: 0, N: n}, {K: -1, N: n}, {K: n + 1, N: n}, {K: n + 1, N: n + 1}, {K: 1, N: n + 1}, {K: n, N: n - 1}, {K: 1, N: n - 1},
			{K: -n, N: -n}, {K: 1, N: -n}, {K: math.MinInt, N: n}, {K: math.MaxInt, N: n}, {K: 1, N: math.MaxInt}, {K: math.MinInt, N: math.MinInt}, {K: 1, N: n + 256}, {K: 257, N: n}}
		for _, dark := range []bool{false, true} {
			if dark {
				darken(t, w)
			}
			for _, c := range wrong {
				for _, digest := range []string{"", sum("blob"), strings.Repeat("a", 33)} {
					refuses(t, w, c, digest)
				}
			}
		}
		sameSeen(t, w, of(t, n))
	}
}

// darken takes the power away.
func darken(t *testing.T, w *world.World) {
	t.Helper()
	w.Cut(0)
	same(t, w.Sync(0), api.ErrCut)
	same(t, w.Dark(), true)
}

// Digests that have not 32 bytes are refused ahead of any call, also without the power; one of 32 finds it gone.
func TestWrongDigests(t *testing.T) {
	c := api.Code{K: 2, N: 3}
	w := laid(t, c, "blob", "++-")
	d := sum("blob")
	for _, dark := range []bool{false, true} {
		if dark {
			darken(t, w)
		}
		for _, digest := range []string{"", d[:1], d[:31], d + "\x00", d + d, sample(64, 1), strings.Repeat("0", 1000)} {
			refuses(t, w, c, digest)
		}
	}
	cutOff(t, w, c, d)
	mends(t, w, c, d, 0, api.ErrCut, 1)
	same(t, w.Crash(nil), api.OK)
	tells(t, w, c, d, "++-")
	mends(t, w, c, d, 1, api.OK, 5)
}

// P10.1: a digest that no blob has: all are asked, nothing is sound, and nothing can be mended.
func TestNoSuchBlob(t *testing.T) {
	for _, c := range codes() {
		w := laid(t, c, "blob", signs(c.N, c.N))
		was := w.Copy()
		for _, digest := range []string{sum("another one"), strings.Repeat("\x00", 32), strings.Repeat("\xff", 32)} {
			tells(t, w, c, digest, signs(0, c.N))
			mends(t, w, c, digest, 0, api.ErrLost, c.N)
		}
		alike(t, w, was)
	}
}

// P10.1: whichever stores lost their shard, or do not answer, or again: the others' are sound.
func TestOfWhich(t *testing.T) {
	faults := []func(i int) api.Fault{
		wipe,
		func(i int) api.Fault { return api.Fault{Kind: api.Lose, Store: i, N: i} },
		down,
	}
	for _, c := range few() {
		whole := laid(t, c, "blob", signs(c.N, c.N))
		for which := range 1 << c.N {
			w := whole.Copy()
			text := bits(which, c.N)
			for i := range c.N {
				if text[i] == '-' {
					strike(t, w, faults[(which+i)%len(faults)](i))
				}
			}
			was := w.Copy()
			tells(t, w, c, sum("blob"), text)
			tells(t, w, c, sum("blob"), text)
			alike(t, w, was)
		}
		w := whole.Copy()
		for i := range c.N {
			strike(t, w, down(i))
		}
		tells(t, w, c, sum("blob"), signs(0, c.N))
		for i := range c.N {
			tells(t, w, c, sum("blob"), signs(i, c.N))
			strike(t, w, up(i))
		}
		tells(t, w, c, sum("blob"), signs(c.N, c.N))
	}
}

// P10.1: stores without room, and such as refuse a write, have sound shards: none is written.
func TestOfWritesNothing(t *testing.T) {
	c := api.Code{K: 2, N: 4}
	w := laid(t, c, "blob", "++-+")
	strike(t, w, full(0))
	strike(t, w, refusing(1))
	strike(t, w, full(2))
	tells(t, w, c, sum("blob"), "++-+")
	same(t, w.Put(1, api.Object{Name: "a"}), api.ErrIO)
}

// wrongs are what may stand under the name of the shard 0 of a blob, of the code 2, 3, and is not that shard.
func wrongs(t *testing.T, blob string) map[string]string {
	t.Helper()
	c := api.Code{K: 2, N: 3}
	d := sum(blob)
	right := own(t, c, blob, 0)
	return map[string]string{
		"no byte":                 "",
		"one byte fewer":          right.Data[:len(right.Data)-1],
		"one byte more":           right.Data + "\x00",
		"of the code 1, 3":        shardOf(t, api.Code{K: 1, N: 3}, blob, d, 0).Data,
		"of the code 3, 3":        shardOf(t, api.Code{K: 3, N: 3}, blob, d, 0).Data,
		"of the code 2, 4":        shardOf(t, api.Code{K: 2, N: 4}, blob, d, 0).Data,
		"of the code 2, 2":        shardOf(t, api.Code{K: 2, N: 2}, blob, d, 0).Data,
		"of another blob":         own(t, c, "another one", 0).Data,
		"of another digest":       shardOf(t, c, blob, sum("another one"), 0).Data,
		"of the index 1":          own(t, c, blob, 1).Data,
		"of the index 2":          own(t, c, blob, 2).Data,
		"the blob alone":          blob,
		"the shard's bytes twice": right.Data + right.Data,
	}
}

// P10.1, P10.2: what stands under a shard's name is sound only if the bytes, the code, the digest and the index are the shard's; it is made again over anything else.
func TestWhatIsSound(t *testing.T) {
	c := api.Code{K: 2, N: 3}
	d := sum("blob")
	right := own(t, c, "blob", 0)
	beside := api.Object{Name: "z", Data: "another object"}
	for what, data := range wrongs(t, "blob") {
		t.Log(what)
		w := laid(t, c, "blob", "-+-")
		put(t, w, 0, api.Object{Name: right.Name, Data: data})
		put(t, w, 0, beside)
		tells(t, w, c, d, "-+-")
		mends(t, w, c, d, 0, api.ErrLost, 3)
		put(t, w, 2, own(t, c, "blob", 2))
		tells(t, w, c, d, "-++")
		mends(t, w, c, d, 1, api.OK, 5)
		tells(t, w, c, d, "+++")
		sees(t, w, 0, right, beside)
	}
}

// P10.1, P10.2: a byte that is another one makes a shard as if it were missing, whichever byte it is.
func TestBent(t *testing.T) {
	c := api.Code{K: 2, N: 3}
	whole := laid(t, c, "blob", "+++")
	o := own(t, c, "blob", 1)
	for at := range len(o.Data) {
		w := whole.Copy()
		strike(t, w, api.Fault{Kind: api.Bend, Store: 1, At: at, C: int(o.Data[at] ^ 1<<(at%8))})
		tells(t, w, c, sum("blob"), "+-+")
		mends(t, w, c, sum("blob"), 1, api.OK, 5)
		alike(t, w, whole)
	}
}

// P10.1: a shard that stands in another store than its own, or under its own name in one that is not its, is not asked for.
func TestInAnotherStore(t *testing.T) {
	c := api.Code{K: 1, N: 3}
	w := of(t, 3)
	for i := range 3 {
		put(t, w, (i+1)%3, own(t, c, "blob", i))
	}
	tells(t, w, c, sum("blob"), "---")
	mends(t, w, c, sum("blob"), 0, api.ErrLost, 3)
}

// P10.1, P10.3: that a shard is sound is told by itself alone, not by whether it is its blob's; where all are, nothing is mended, be there a blob of theirs or not.
func TestSoundOfNoBlob(t *testing.T) {
	c := api.Code{K: 2, N: 3}
	d := strings.Repeat("\x00", 32)
	w := of(t, 3)
	for i := range 3 {
		put(t, w, i, shardOf(t, c, []string{"blob", "bolb", "lobb"}[i], d, i))
	}
	was := w.Copy()
	tells(t, w, c, d, "+++")
	mends(t, w, c, d, 0, api.OK, 3)
	alike(t, w, was)
}

// cutOff fails if Of does not find the power gone at its next call.
func cutOff(t *testing.T, w *world.World, c api.Code, digest string) {
	t.Helper()
	was := w.Calls()
	all, e := Of(w, c, digest)
	same(t, len(all), 0)
	same(t, e, api.ErrCut)
	same(t, w.Calls()-was, 1)
}

// A cut at each single call of Of: ErrCut, nothing told, and no call more.
func TestCutAtEachCallOfOf(t *testing.T) {
	for _, c := range codes() {
		whole := laid(t, c, "blob", signs(c.N-1, c.N))
		for after := range c.N {
			w := whole.Copy()
			same(t, w.Cut(after), api.OK)
			all, e := Of(w, c, sum("blob"))
			same(t, len(all), 0)
			same(t, e, api.ErrCut)
			same(t, w.Calls()-whole.Calls(), after+1)
			same(t, w.Dark(), true)
			cutOff(t, w, c, sum("blob"))
			alike(t, w, whole)
		}
		w := whole.Copy()
		same(t, w.Cut(c.N), api.OK)
		tells(t, w, c, sum("blob"), signs(c.N-1, c.N))
		same(t, w.Dark(), false)
		cutOff(t, w, c, sum("blob"))
	}
}

// within says whether a text's bytes are some of a list's.
func within(part string, whole []byte) bool {
	at := uintptr(unsafe.Pointer(unsafe.StringData(part)))
	from := uintptr(unsafe.Pointer(unsafe.SliceData(whole)))
	return len(part) > 0 && at >= from && at < from+uintptr(len(whole))
}

// Nothing that was handed in is changed or kept, and nothing is lent out.
func TestNothingKept(t *testing.T) {
	for _, c := range codes() {
		if c.K == c.N {
			continue
		}
		w := laid(t, c, "blob", signs(c.K, c.N))
		want := sum("blob")
		list := []byte(want + "and room behind it")
		digest := unsafe.String(unsafe.SliceData(list), 32)
		all, e := Of(w, c, digest)
		same(t, e, api.OK)
		same(t, cap(all) < 2*most, true)
		n, e := Mend(w, c, digest)
		same(t, e, api.OK)
		same(t, n, c.N-c.K)
		same(t, string(list), want+"and room behind it")
		for i := range c.N {
			for _, o := range w.Objects(i) {
				if within(o.Name, list) || within(o.Data, list) {
					t.Errorf("code %v: store %d keeps what was handed in", c, i)
				}
			}
		}
		clear(list)

		all, e = Of(w, c, want)
		same(t, e, api.OK)
		clear(all[:cap(all)])
		tells(t, w, c, want, signs(c.N, c.N))
		for i := range c.N {
			sees(t, w, i, own(t, c, "blob", i))
		}
	}
}
