package stripe

import (
	"crypto/sha256"
	"math"
	"slices"
	"strings"
	"testing"
	"unsafe"

	"strongbox/api"
	"strongbox/code"
	"strongbox/shard"
	"strongbox/world"
)

const most = api.MaxStores

// of is a world of n stores.
func of(t *testing.T, n int) *world.World {
	t.Helper()
	w, e := world.New(n)
	if e != api.OK {
		t.Fatalf("New of %d: %d", n, e)
	}
	return w
}

// same fails if what was got is not what is asked for.
func same[A comparable](t *testing.T, got, want A) {
	t.Helper()
	if got != want {
		t.Fatalf("%#v, not %#v", got, want)
	}
}

func sum(s string) string {
	d := sha256.Sum256([]byte(s))
	return string(d[:])
}

// sample are n bytes of all kinds, the same ones each time; seed says which.
func sample(n, seed int) string {
	b := make([]byte, n)
	x := uint32(seed)*2654435761 + 1
	for i := range b {
		x = x*1664525 + 1013904223
		b[i] = byte(x >> 24)
	}
	return string(b)
}

// blobs are of no byte, of one, and so on, up to the longest one.
func blobs() []string {
	return []string{"", "\x00", "a", "blob", sample(7, 1), sample(8, 2), sample(1000, 3), strings.Repeat("\x00", 500), sample(api.MaxBlob-1, 4), sample(api.MaxBlob, 5)}
}

// codes are some of each number of stores.
func codes() []api.Code {
	var all []api.Code
	for n := 1; n <= most; n++ {
		for k := 1; k <= n; k++ {
			if k == 1 || k == n || k == n/2+1 {
				all = append(all, api.Code{K: k, N: n})
			}
		}
	}
	return all
}

// shardOf is the object of a blob's shard, whose digest may be told otherwise than it is.
func shardOf(t *testing.T, c api.Code, blob, digest string, i int) api.Object {
	t.Helper()
	payloads, e := code.Encode(c, blob)
	same(t, e, api.OK)
	o, e := shard.Make(shard.Shard{Code: c, Digest: digest, Index: i, Payload: payloads[i]})
	same(t, e, api.OK)
	return o
}

// own is the object that store i is to have of a blob.
func own(t *testing.T, c api.Code, blob string, i int) api.Object {
	t.Helper()
	return shardOf(t, c, blob, sum(blob), i)
}

func strike(t *testing.T, w *world.World, f api.Fault) {
	t.Helper()
	same(t, w.Strike(f), api.OK)
}

// put puts an object by itself, and syncs it.
func put(t *testing.T, w *world.World, i int, o api.Object) {
	t.Helper()
	same(t, w.Put(i, o), api.OK)
	same(t, w.Sync(i), api.OK)
}

// writes fails if a write is answered otherwise, or is not of so many calls.
func writes(t *testing.T, w *world.World, c api.Code, blob string, want api.Errno, calls int) {
	t.Helper()
	was := w.Calls()
	digest, e := Write(w, c, blob)
	if e != want || e == api.OK && digest != sum(blob) || e != api.OK && digest != "" {
		t.Fatalf("Write: %x, %d, not %d", digest, e, want)
	}
	if got := w.Calls() - was; got != calls {
		t.Fatalf("Write: %d calls, not %d", got, calls)
	}
}

// reads fails if a blob is not read, or not by so many calls.
func reads(t *testing.T, w *world.World, c api.Code, blob string, calls int) {
	t.Helper()
	was := w.Calls()
	got, e := Read(w, c, sum(blob))
	if e != api.OK || got != blob {
		t.Fatalf("Read: %.40q, %d, not %.40q", got, e, blob)
	}
	if got := w.Calls() - was; got != calls {
		t.Fatalf("Read: %d calls, not %d", got, calls)
	}
}

// lost fails if a digest's blob is read, or if not all stores were asked.
func lost(t *testing.T, w *world.World, c api.Code, digest string) {
	t.Helper()
	unread(t, w, c, digest, api.ErrLost, w.N())
}

func unread(t *testing.T, w *world.World, c api.Code, digest string, want api.Errno, calls int) {
	t.Helper()
	was := w.Calls()
	got, e := Read(w, c, digest)
	if e != want || got != "" {
		t.Fatalf("Read: %.40q, %d, not %d", got, e, want)
	}
	if got := w.Calls() - was; got != calls {
		t.Fatalf("Read: %d calls, not %d", got, calls)
	}
}

// shards fails if those that are sound are not those of a text, a + or - for each store.
func shards(t *testing.T, w *world.World, c api.Code, digest, want string) {
	t.Helper()
	was := w.Calls()
	got, e := Shards(w, c, digest)
	text := ""
	for _, is := range got {
		text += map[bool]string{false: "-", true: "+"}[is]
	}
	if e != api.OK || text != want {
		t.Fatalf("Shards: %s, %d, not %s", text, e, want)
	}
	if got := w.Calls() - was; got != c.N {
		t.Fatalf("Shards: %d calls, not %d", got, c.N)
	}
}

// sees fails if a store has other objects than these.
func sees(t *testing.T, w *world.World, i int, want ...api.Object) {
	t.Helper()
	if got := w.Objects(i); !slices.Equal(got, want) {
		t.Fatalf("seen of %d: %.300q, not %.300q", i, got, want)
	}
}

// The chapter's examples.
func TestExamples(t *testing.T) {
	c := api.Code{K: 2, N: 3}
	w := of(t, 3)
	writes(t, w, c, "blob", api.OK, 9)
	for i := range 3 {
		sees(t, w, i, own(t, c, "blob", i))
	}
	writes(t, w, c, "blob", api.OK, 6)

	w = of(t, 3)
	strike(t, w, api.Fault{Kind: api.Down, Store: 0})
	writes(t, w, c, "blob", api.OK, 7)
	reads(t, w, c, "blob", 3)

	w = of(t, 3)
	writes(t, w, c, "blob", api.OK, 9)
	strike(t, w, api.Fault{Kind: api.Wipe, Store: 0})
	strike(t, w, api.Fault{Kind: api.Wipe, Store: 2})
	lost(t, w, c, sum("blob"))
}

// P9.1: whatever code and blob, it is written as one object a store, and read by K calls.
func TestWriteAndRead(t *testing.T) {
	for _, c := range codes() {
		w := of(t, c.N)
		all := blobs()
		for _, blob := range all {
			writes(t, w, c, blob, api.OK, 3*c.N)
			for i := range c.N {
				o := own(t, c, blob, i)
				data, e := w.Get(i, o.Name)
				if e != api.OK || data != o.Data {
					t.Fatalf("code %v: store %d does not hold its shard", c, i)
				}
			}
		}
		for _, blob := range all {
			reads(t, w, c, blob, c.K)
			shards(t, w, c, sum(blob), strings.Repeat("+", c.N))
		}
		for i := range c.N {
			same(t, len(w.Objects(i)), len(all))
		}
	}
}

// P9.1: one byte more than MaxBlob is refused, and nothing is asked for it.
func TestTooLarge(t *testing.T) {
	for _, c := range codes() {
		w := of(t, c.N)
		writes(t, w, c, sample(api.MaxBlob, 1), api.OK, 3*c.N)
		writes(t, w, c, sample(api.MaxBlob+1, 1), api.ErrTooLarge, 0)
		writes(t, w, c, sample(3*api.MaxBlob, 1), api.ErrTooLarge, 0)
	}
}

// answers are the errors of all three calls; they fail if anything else is answered beside one, or a call was counted.
func answers(t *testing.T, w *world.World, c api.Code, blob, digest string) [3]api.Errno {
	t.Helper()
	was := w.Calls()
	written, we := Write(w, c, blob)
	read, re := Read(w, c, digest)
	all, se := Shards(w, c, digest)
	if written != "" || read != "" || len(all) != 0 || w.Calls() != was {
		t.Fatalf("%x, %.40q, %v, %d calls", written, read, all, w.Calls()-was)
	}
	return [3]api.Errno{we, re, se}
}

// All three calls of a nil world, ahead of whatever else is wrong.
func TestNil(t *testing.T) {
	want := [3]api.Errno{api.ErrNil, api.ErrNil, api.ErrNil}
	for _, c := range []api.Code{{K: 2, N: 3}, {}, {K: 1, N: 13}} {
		for _, blob := range []string{"", "blob", sample(api.MaxBlob+1, 1)} {
			for _, digest := range []string{"", sum("blob"), strings.Repeat("a", 33)} {
				same(t, answers(t, nil, c, blob, digest), want)
			}
		}
	}
}

// Codes that may not be, or that have not as many shards as there are stores, ahead of a blob that is too long.
func TestWrongCodes(t *testing.T) {
	want := [3]api.Errno{api.ErrArg, api.ErrArg, api.ErrArg}
	for n := 1; n <= most; n++ {
		w := of(t, n)
		wrong := []api.Code{{}, {K: 0, N: n}, {K: -1, N: n}, {K: n + 1, N: n}, {K: n + 1, N: n + 1}, {K: 1, N: n + 1}, {K: n, N: n - 1}, {K: 1, N: n - 1},
			{K: -n, N: -n}, {K: 1, N: -n}, {K: math.MinInt, N: n}, {K: math.MaxInt, N: n}, {K: 1, N: math.MaxInt}, {K: math.MinInt, N: math.MinInt}, {K: 1, N: n + 256}, {K: 257, N: n}}
		for _, c := range wrong {
			for _, blob := range []string{"", "blob", sample(api.MaxBlob+1, 1)} {
				for _, digest := range []string{"", sum("blob"), strings.Repeat("a", 33)} {
					same(t, answers(t, w, c, blob, digest), want)
				}
			}
		}
		for i := range n {
			sees(t, w, i)
		}
	}
}

// A world that no call made has no stores: no code is its.
func TestWorldOfNone(t *testing.T) {
	for _, c := range []api.Code{{}, {K: 1, N: 1}, {K: 2, N: 3}, {K: 0, N: 0}} {
		same(t, answers(t, &world.World{}, c, "blob", sum("blob")), [3]api.Errno{api.ErrArg, api.ErrArg, api.ErrArg})
	}
}

// Digests that have not 32 bytes are refused ahead of any call, also without the power.
func TestWrongDigests(t *testing.T) {
	c := api.Code{K: 2, N: 3}
	w := of(t, 3)
	writes(t, w, c, "blob", api.OK, 9)
	d := sum("blob")
	for _, dark := range []bool{false, true} {
		if dark {
			w.Cut(0)
			w.Sync(0)
			same(t, w.Dark(), true)
		}
		for _, digest := range []string{"", d[:1], d[:31], d + "\x00", d + d, sample(64, 1), strings.Repeat("0", 1000)} {
			was := w.Calls()
			blob, e := Read(w, c, digest)
			same(t, blob, "")
			same(t, e, api.ErrArg)
			all, e := Shards(w, c, digest)
			same(t, len(all), 0)
			same(t, e, api.ErrArg)
			same(t, w.Calls(), was)
		}
		writes(t, w, c, sample(api.MaxBlob+1, 1), api.ErrTooLarge, 0)
	}
}

// P9.1, P9.2: a digest that no blob has: all are asked, and nothing is sound.
func TestNoSuchBlob(t *testing.T) {
	for _, c := range codes() {
		w := of(t, c.N)
		lost(t, w, c, sum("blob"))
		writes(t, w, c, "blob", api.OK, 3*c.N)
		for _, digest := range []string{sum("another one"), strings.Repeat("\x00", 32), strings.Repeat("\xff", 32)} {
			lost(t, w, c, digest)
			shards(t, w, c, digest, strings.Repeat("-", c.N))
		}
	}
}

// P9.3: whichever K stores answer, and have it as it was, the blob is read; of one fewer it is lost. Stores are asked till K are sound, and no further.
func TestAnyK(t *testing.T) {
	faults := []func(i int) api.Fault{
		func(i int) api.Fault { return api.Fault{Kind: api.Wipe, Store: i} },
		func(i int) api.Fault { return api.Fault{Kind: api.Lose, Store: i, N: i} },
		func(i int) api.Fault { return api.Fault{Kind: api.Down, Store: i} },
	}
	blob := sample(100, 1)
	for _, c := range []api.Code{{K: 1, N: 1}, {K: 1, N: 3}, {K: 2, N: 3}, {K: 3, N: 3}, {K: 3, N: 5}, {K: 4, N: 6}, {K: 2, N: 7}} {
		whole := of(t, c.N)
		writes(t, whole, c, blob, api.OK, 3*c.N)
		for which := range 1 << c.N {
			w := whole.Copy()
			left, last, text := 0, 0, ""
			for i := range c.N {
				if which>>i&1 == 0 {
					text += "-"
					strike(t, w, faults[(which+i)%len(faults)](i))
					continue
				}
				text += "+"
				if left++; left == c.K {
					last = i
				}
			}
			if left < c.K {
				lost(t, w, c, sum(blob))
			} else {
				reads(t, w, c, blob, last+1)
			}
			shards(t, w, c, sum(blob), text)
		}
	}
}

// P9.2, P9.3: a byte that is another one makes a shard as if it were missing, whichever byte it is; a store that answers again has its shard again.
func TestBentAndBack(t *testing.T) {
	c := api.Code{K: 2, N: 3}
	whole := of(t, 3)
	writes(t, whole, c, "blob", api.OK, 9)
	o := own(t, c, "blob", 1)
	for at := range len(o.Data) {
		w := whole.Copy()
		strike(t, w, api.Fault{Kind: api.Bend, Store: 1, At: at, C: int(o.Data[at] ^ 1<<(at%8))})
		shards(t, w, c, sum("blob"), "+-+")
		reads(t, w, c, "blob", 3)
		strike(t, w, api.Fault{Kind: api.Down, Store: 2})
		shards(t, w, c, sum("blob"), "+--")
		lost(t, w, c, sum("blob"))
		strike(t, w, api.Fault{Kind: api.Up, Store: 2})
		reads(t, w, c, "blob", 3)
	}
}

// P9.2: what stands under a shard's name is sound only if the bytes, the code, the digest and the index are the shard's.
func TestWhatIsSound(t *testing.T) {
	c := api.Code{K: 2, N: 3}
	d := sum("blob")
	right := own(t, c, "blob", 0)
	wrong := map[string]string{
		"no byte":                 "",
		"one byte fewer":          right.Data[:len(right.Data)-1],
		"one byte more":           right.Data + "\x00",
		"of the code 1, 3":        shardOf(t, api.Code{K: 1, N: 3}, "blob", d, 0).Data,
		"of the code 3, 3":        shardOf(t, api.Code{K: 3, N: 3}, "blob", d, 0).Data,
		"of the code 2, 4":        shardOf(t, api.Code{K: 2, N: 4}, "blob", d, 0).Data,
		"of the code 2, 2":        shardOf(t, api.Code{K: 2, N: 2}, "blob", d, 0).Data,
		"of another blob":         own(t, c, "another one", 0).Data,
		"of another digest":       shardOf(t, c, "blob", sum("another one"), 0).Data,
		"of the index 1":          own(t, c, "blob", 1).Data,
		"of the index 2":          own(t, c, "blob", 2).Data,
		"payload alone":           "blob",
		"the shard's bytes twice": right.Data + right.Data,
	}
	for what, data := range wrong {
		w := of(t, 3)
		put(t, w, 0, api.Object{Name: right.Name, Data: data})
		put(t, w, 1, own(t, c, "blob", 1))
		if all, e := Shards(w, c, d); e != api.OK || !slices.Equal(all, []bool{false, true, false}) {
			t.Errorf("%s: %v, %d", what, all, e)
		}
		lost(t, w, c, d)
		put(t, w, 2, own(t, c, "blob", 2))
		reads(t, w, c, "blob", 3)
		put(t, w, 0, right)
		shards(t, w, c, d, "+++")
		reads(t, w, c, "blob", 2)
	}
}

// P9.2: a shard that stands in another store than its own is not asked for.
func TestInAnotherStore(t *testing.T) {
	c := api.Code{K: 1, N: 3}
	w := of(t, 3)
	for i := range 3 {
		put(t, w, (i+1)%3, own(t, c, "blob", i))
	}
	shards(t, w, c, sum("blob"), "---")
	lost(t, w, c, sum("blob"))
}

// P9.2: that a shard is sound is told by itself alone, not by whether it is its blob's.
func TestSoundOfNoBlob(t *testing.T) {
	c := api.Code{K: 2, N: 3}
	w := of(t, 3)
	d := strings.Repeat("\x00", 32)
	for i := range 3 {
		put(t, w, i, shardOf(t, c, "blob", d, i))
	}
	shards(t, w, c, d, "+++")
}

// P9.1: K sound shards that give no blob of that digest: it is lost, and those behind them are not asked.
func TestOfNoBlob(t *testing.T) {
	c := api.Code{K: 2, N: 4}
	of0 := func(n int) string { return strings.Repeat("\x00", n) }
	for _, test := range []struct {
		what, blob string // the blob of the digest that the shards tell
		payloads   [2]string
	}{
		{"another blob's", "blob", [2]string{of0(6), "\x00\x04bolb"}},
		{"a shorter blob's", "blob", [2]string{of0(6), "\x00\x03blo\x00"}},
		{"of unlike lengths", "blob", [2]string{of0(6), "\x00\x04blob\x00"}},
		{"of no byte", "", [2]string{"", ""}},
		{"shorter than a length", "", [2]string{of0(3), of0(3)}},
		{"a length past the end", "blob", [2]string{of0(6), "\x00\x05blob"}},
		{"a length far past the end", "blob", [2]string{"\x80" + of0(5), "\x00\x04blob"}},
		{"bytes behind the blob", "blo", [2]string{of0(6), "\x00\x03blo!"}},
		{"too many bytes behind the blob", "blob", [2]string{of0(6) + "\x00", "\x04blob\x00\x00"}},
		{"too long", "", [2]string{of0(api.MaxBlob), of0(api.MaxBlob)}},
	} {
		digest := sum(test.blob)
		w := of(t, 4)
		for i := range 4 {
			put(t, w, i, own(t, c, test.blob, i))
		}
		for i, payload := range test.payloads {
			o, e := shard.Make(shard.Shard{Code: c, Digest: digest, Index: i, Payload: payload})
			same(t, e, api.OK)
			put(t, w, i, o)
		}
		t.Log(test.what)
		shards(t, w, c, digest, "++++")
		unread(t, w, c, digest, api.ErrLost, 2)
		strike(t, w, down(0))
		strike(t, w, down(1))
		reads(t, w, c, test.blob, 4)
	}
}

// P9.1: of K sound shards whose numbers are not the first ones likewise, also where they are of two blobs.
func TestOfTwoBlobs(t *testing.T) {
	c := api.Code{K: 3, N: 5}
	// Long enough that no payload of the one is the other's.
	right, other := sample(20, 1), sample(20, 2)
	d := sum(right)
	for which := range 1 << 5 {
		w := of(t, 5)
		wrong := 0 // how many of the first three are the other blob's
		for i := range 5 {
			blob := right
			if which>>i&1 == 1 {
				blob = other
				if i < 3 {
					wrong++
				}
			}
			put(t, w, i, shardOf(t, c, blob, d, i))
		}
		shards(t, w, c, d, "+++++")
		if wrong == 0 {
			reads(t, w, c, right, 3)
		} else {
			unread(t, w, c, d, api.ErrLost, 3)
		}
	}
}

// within says whether a text's bytes are some of a list's.
func within(part string, whole []byte) bool {
	at := uintptr(unsafe.Pointer(unsafe.StringData(part)))
	from := uintptr(unsafe.Pointer(unsafe.SliceData(whole)))
	return len(part) > 0 && at >= from && at < from+uintptr(len(whole))
}

// Nothing that was handed in is kept, or lent out: not even where the caller writes over it.
func TestNothingKept(t *testing.T) {
	for _, c := range []api.Code{{K: 1, N: 1}, {K: 1, N: 2}, {K: 2, N: 3}} {
		w := of(t, c.N)
		list := []byte("a blob of some bytes, and room behind it")
		blob := unsafe.String(unsafe.SliceData(list), 20)
		want := strings.Clone(blob)
		digest, e := Write(w, c, blob)
		same(t, e, api.OK)
		same(t, string(list), "a blob of some bytes, and room behind it")
		for i := range c.N {
			for _, o := range w.Objects(i) {
				if within(o.Name, list) || within(o.Data, list) {
					t.Errorf("code %v: store %d keeps what was handed in", c, i)
				}
			}
		}
		clear(list)
		same(t, digest, sum(want))

		asked := []byte(digest)
		text := unsafe.String(unsafe.SliceData(asked), 32)
		got, e := Read(w, c, text)
		same(t, e, api.OK)
		same(t, string(asked), digest)
		all, e := Shards(w, c, text)
		same(t, e, api.OK)
		same(t, string(asked), digest)
		clear(asked)
		same(t, got, want)

		for i := range all {
			all[i] = false
		}
		again, e := Shards(w, c, digest)
		same(t, e, api.OK)
		same(t, slices.Contains(again, false), false)
		reads(t, w, c, want, c.K)
	}
}

// Reading changes nothing but the count of calls, whatever comes of it.
func TestReadingChangesNothing(t *testing.T) {
	c := api.Code{K: 2, N: 3}
	w := of(t, 3)
	writes(t, w, c, "blob", api.OK, 9)
	strike(t, w, api.Fault{Kind: api.Bend, Store: 0, At: 50, C: 1})
	same(t, w.Put(1, api.Object{Name: "a", Data: "not synced"}), api.OK)
	was := w.Copy()
	for range 3 {
		reads(t, w, c, "blob", 3)
		shards(t, w, c, sum("blob"), "-++")
		lost(t, w, c, sum("another one"))
	}
	for _, crashed := range []bool{false, true} {
		if crashed {
			w.Crash(nil)
			was.Crash(nil)
		}
		for i := range 3 {
			sees(t, w, i, was.Objects(i)...)
		}
	}
}
