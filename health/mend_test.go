package health

import (
	"slices"
	"strings"
	"testing"

	"strongbox/api"
	"strongbox/shard"
	"strongbox/world"
)

// mends fails if a Mend is answered otherwise, or is not of so many calls.
func mends(t *testing.T, w *world.World, c api.Code, digest string, n int, e api.Errno, calls int) {
	t.Helper()
	was := w.Calls()
	got, ge := Mend(w, c, digest)
	if got != n || ge != e {
		t.Fatalf("code %v: Mend: %d, %d, not %d, %d", c, got, ge, n, e)
	}
	if got := w.Calls() - was; got != calls {
		t.Fatalf("code %v: Mend: %d calls, not %d", c, got, calls)
	}
}

// holders fails if the stores that have their shard, byte by byte, are not those of a text; no call is counted for it.
func holders(t *testing.T, w *world.World, c api.Code, blob, want string) {
	t.Helper()
	which := 0
	for i := range c.N {
		if slices.Contains(w.Objects(i), own(t, c, blob, i)) {
			which |= 1 << i
		}
	}
	if text := bits(which, c.N); text != want {
		t.Fatalf("code %v: held: %s, not %s", c, text, want)
	}
}

// stand fails if the shards that stand for good are not those of a text.
func stand(t *testing.T, w *world.World, c api.Code, blob, want string) {
	t.Helper()
	behind := w.Copy()
	same(t, behind.Crash(nil), api.OK)
	holders(t, behind, c, blob, want)
}

// P10.1, P10.3: whatever code and blob: where just K are sound, whichever ones, all others are made again as they were.
func TestMendedAsTheyWere(t *testing.T) {
	for _, c := range codes() {
		for _, blob := range blobs() {
			for _, last := range []bool{false, true} {
				text := signs(c.K, c.N)
				if last {
					text = strings.Repeat("-", c.N-c.K) + strings.Repeat("+", c.K)
				}
				w := laid(t, c, blob, text)
				mends(t, w, c, sum(blob), c.N-c.K, api.OK, c.N+2*(c.N-c.K))
				stand(t, w, c, blob, signs(c.N, c.N))
				for i := range c.N {
					sees(t, w, i, own(t, c, blob, i))
				}
				mends(t, w, c, sum(blob), 0, api.OK, c.N)
			}
		}
	}
}

// P10.1 to P10.3: whichever are sound: of K or more all others are made again, by two calls each; of fewer it is ErrLost, and nothing is changed.
func TestAnyK(t *testing.T) {
	for _, c := range few() {
		d := sum("blob")
		for which := range 1 << c.N {
			text := bits(which, c.N)
			w := laid(t, c, "blob", text)
			was := w.Copy()
			lacks := c.N - plus(text)
			if plus(text) < c.K {
				mends(t, w, c, d, 0, api.ErrLost, c.N)
				alike(t, w, was)
				continue
			}
			mends(t, w, c, d, lacks, api.OK, c.N+2*lacks)
			stand(t, w, c, "blob", signs(c.N, c.N))
			tells(t, w, c, d, signs(c.N, c.N))
		}
	}
}

// P10.3: where all are sound they are got, and nothing more is done: nothing is put, nothing synced, be it full, or about to refuse.
func TestAllSound(t *testing.T) {
	for _, c := range codes() {
		w := of(t, c.N)
		for i := range c.N {
			same(t, w.Put(i, own(t, c, "blob", i)), api.OK)
			strike(t, w, []api.Fault{full(i), refusing(i)}[i%2])
		}
		was := w.Copy()
		for range 2 {
			mends(t, w, c, sum("blob"), 0, api.OK, c.N)
		}
		alike(t, w, was)
		stand(t, w, c, "blob", signs(0, c.N))
		for i := range c.N {
			want := []api.Errno{api.ErrFull, api.ErrIO}[i%2]
			same(t, w.Put(i, api.Object{Name: "a", Data: "b"}), want)
		}
	}
}

// P10.2: no shard that was sound is written, nor its store synced, while others are made again.
func TestSoundOnesLeft(t *testing.T) {
	c := api.Code{K: 2, N: 5}
	w := of(t, 5)
	for _, i := range []int{0, 2, 3} {
		same(t, w.Put(i, own(t, c, "blob", i)), api.OK)
	}
	strike(t, w, full(0))
	strike(t, w, refusing(2))
	mends(t, w, c, sum("blob"), 2, api.OK, 5+4)
	holders(t, w, c, "blob", "+++++")
	stand(t, w, c, "blob", "-+--+")
	same(t, w.Put(2, api.Object{Name: "a"}), api.ErrIO)
	mends(t, w, c, sum("blob"), 0, api.OK, 5)
	same(t, w.Crash([]api.Survive{{Keep: []int{9}}, {}, {Keep: []int{api.MaxObject}}}), api.OK)
	tells(t, w, c, sum("blob"), "-++-+")
}

// P10.1: a store that does not answer is asked by Get alone: those of the others are made again, and it is ErrIO; also if nothing could be.
func TestDown(t *testing.T) {
	for _, c := range few() {
		for which := range 1 << c.N {
			text := bits(which, c.N)
			w := of(t, c.N)
			// Every second one of those that answer, from the last one on, lacks its shard, as long as there are K others.
			left := plus(text)
			for i := range c.N {
				switch {
				case text[i] == '-':
					put(t, w, i, own(t, c, "blob", i))
					strike(t, w, down(i))
				case i%2 == 0 || left <= c.K:
					put(t, w, i, own(t, c, "blob", i))
				default:
					left--
				}
			}
			lacks := plus(text) - left
			was := w.Copy()
			switch {
			case left < c.K:
				mends(t, w, c, sum("blob"), 0, api.ErrLost, c.N)
				alike(t, w, was)
			case plus(text) < c.N:
				mends(t, w, c, sum("blob"), lacks, api.ErrIO, c.N+2*lacks)
				tells(t, w, c, sum("blob"), text)
				stand(t, w, c, "blob", signs(c.N, c.N))
			default:
				mends(t, w, c, sum("blob"), lacks, api.OK, c.N+2*lacks)
			}
			for i := range c.N {
				strike(t, w, up(i))
			}
			if left >= c.K {
				mends(t, w, c, sum("blob"), 0, api.OK, c.N)
			}
		}
	}
}

// P10.1: whichever stores refuse the write: the others' are made again and counted, and it is ErrIO; a store that refused is not synced. Mended again it is whole.
func TestRefused(t *testing.T) {
	for _, c := range few() {
		for which := range 1 << (c.N - c.K) {
			w := laid(t, c, "blob", signs(c.K, c.N))
			text := signs(c.K, c.K) + bits(which, c.N-c.K)
			for i := range c.N {
				if text[i] == '-' {
					same(t, w.Put(i, api.Object{Name: "a", Data: "not synced"}), api.OK)
					strike(t, w, refusing(i))
				}
			}
			made, lacks := plus(text)-c.K, c.N-plus(text)
			e := api.OK
			if lacks > 0 {
				e = api.ErrIO
			}
			mends(t, w, c, sum("blob"), made, e, c.N+2*made+lacks)
			holders(t, w, c, "blob", text)
			stand(t, w, c, "blob", text)
			behind := w.Copy()
			same(t, behind.Crash(nil), api.OK)
			for i := range c.N {
				if text[i] == '-' {
					sees(t, behind, i)
				}
			}
			mends(t, w, c, sum("blob"), lacks, api.OK, c.N+2*lacks)
			stand(t, w, c, "blob", signs(c.N, c.N))
		}
	}
}

// P10.1: a refusal is of one write: a store that refuses a later one takes this one.
func TestRefusedLater(t *testing.T) {
	c := api.Code{K: 2, N: 3}
	w := laid(t, c, "blob", "++-")
	strike(t, w, api.Fault{Kind: api.Refuse, Store: 2, N: 1})
	mends(t, w, c, sum("blob"), 1, api.OK, 5)
	same(t, w.Put(2, api.Object{Name: "a"}), api.ErrIO)
}

// P10.1: a put that is answered ErrFull is not the end: those behind it are made again, and counted; the store is not synced.
func TestFull(t *testing.T) {
	for _, c := range few() {
		for which := range 1 << (c.N - c.K) {
			text := bits(which, c.N-c.K) + signs(c.K, c.K)
			w := laid(t, c, "blob", strings.Repeat("-", c.N-c.K)+signs(c.K, c.K))
			for i := range c.N {
				if text[i] == '-' {
					same(t, w.Put(i, api.Object{Name: "a"}), api.OK)
					strike(t, w, full(i))
				}
			}
			made, lacks := plus(text)-c.K, c.N-plus(text)
			e := api.OK
			if lacks > 0 {
				e = api.ErrFull
			}
			mends(t, w, c, sum("blob"), made, e, c.N+2*made+lacks)
			stand(t, w, c, "blob", text)
			behind := w.Copy()
			same(t, behind.Crash(nil), api.OK)
			for i := range c.N {
				if text[i] == '-' {
					sees(t, behind, i)
					strike(t, w, api.Fault{Kind: api.Room, Store: i, N: api.MaxObject})
				}
			}
			mends(t, w, c, sum("blob"), lacks, api.OK, c.N+2*lacks)
		}
	}
}

// P10.1, P10.3: just as many bytes of room as the shard has are enough; one fewer are not. What it takes the place of needs none.
func TestJustRoom(t *testing.T) {
	c := api.Code{K: 2, N: 3}
	o := own(t, c, "blob", 1)
	for _, was := range []string{"", "another object", strings.Repeat("a", len(o.Data)), strings.Repeat("a", 1000)} {
		for short := range 2 {
			w := laid(t, c, "blob", "+-+")
			put(t, w, 1, api.Object{Name: o.Name, Data: was})
			put(t, w, 1, api.Object{Name: "z", Data: "beside"})
			strike(t, w, api.Fault{Kind: api.Room, Store: 1, N: len(o.Data) + len("beside") - short})
			if short == 0 {
				mends(t, w, c, sum("blob"), 1, api.OK, 5)
				stand(t, w, c, "blob", "+++")
			} else {
				mends(t, w, c, sum("blob"), 0, api.ErrFull, 4)
				sees(t, w, 1, api.Object{Name: o.Name, Data: was}, api.Object{Name: "z", Data: "beside"})
			}
		}
	}
}

// P10.1: ErrLost is ahead of all that puts could answer; ErrFull ahead of ErrIO, in whichever row they come.
func TestWhichError(t *testing.T) {
	c := api.Code{K: 2, N: 6}
	trouble := []struct {
		strike func(i int) api.Fault
		calls  int // behind the Get
	}{{full, 1}, {refusing, 1}, {down, 0}, {up, 2}}
	for which := range 4 * 4 * 4 * 4 {
		w := laid(t, c, "blob", "-+--+-")
		n, calls, e := 0, 6, api.OK
		for at, i := range []int{0, 2, 3, 5} {
			kind := which >> (2 * at) & 3
			strike(t, w, trouble[kind].strike(i))
			calls += trouble[kind].calls
			switch {
			case kind == 0:
				e = api.ErrFull
			case kind == 3:
				n++
			case e == api.OK:
				e = api.ErrIO
			}
		}
		lost := w.Copy()
		strike(t, lost, []api.Fault{wipe(4), down(4)}[which%2])
		was := lost.Copy()
		mends(t, lost, c, sum("blob"), 0, api.ErrLost, 6)
		alike(t, lost, was)
		mends(t, w, c, sum("blob"), n, e, calls)
	}
}

// P10.1: K sound shards that give no blob of that digest: it can't be told, whatever is behind them.
func TestOfNoBlob(t *testing.T) {
	c := api.Code{K: 2, N: 5}
	of0 := func(n int) string { return strings.Repeat("\x00", n) }
	for _, test := range []struct {
		what, blob string // the blob of the digest that the shards tell
		payloads   [2]string
	}{
		{"another blob's", "blob", [2]string{of0(6), "\x00\x04bolb"}},
		{"a shorter blob's", "blob", [2]string{of0(6), "\x00\x03blo\x00"}},
		{"of unlike lengths", "blob", [2]string{of0(6), "\x00\x04blob\x00"}},
		{"of no byte", "", [2]string{"", ""}},
		{"shorter than a length", "", [2]string{of0(3), of0(3)}},
		{"a length past the end", "blob", [2]string{of0(6), "\x00\x05blob"}},
		{"a length far past the end", "blob", [2]string{"\x80" + of0(5), "\x00\x04blob"}},
		{"bytes behind the blob", "blo", [2]string{of0(6), "\x00\x03blo!"}},
		{"too many bytes behind the blob", "blob", [2]string{of0(6) + "\x00", "\x04blob\x00\x00"}},
		{"too long", "", [2]string{of0(api.MaxBlob), of0(api.MaxBlob)}},
	} {
		t.Log(test.what)
		digest := sum(test.blob)
		w := laid(t, c, test.blob, "++++-")
		for i, payload := range test.payloads {
			o, e := shard.Make(shard.Shard{Code: c, Digest: digest, Index: i, Payload: payload})
			same(t, e, api.OK)
			put(t, w, i, o)
		}
		was := w.Copy()
		tells(t, w, c, digest, "++++-")
		mends(t, w, c, digest, 0, api.ErrLost, 5)
		alike(t, w, was)
		// Also where the one that is not sound could not be mended anyway.
		strike(t, w, down(4))
		mends(t, w, c, digest, 0, api.ErrLost, 5)
		strike(t, w, down(0))
		strike(t, w, down(1))
		strike(t, w, up(4))
		mends(t, w, c, digest, 1, api.ErrIO, 7)
		for i := range 4 {
			sees(t, w, i, was.Objects(i)...)
		}
		sees(t, w, 4, own(t, c, test.blob, 4))
	}
}

// P10.1: the first K that are sound are those that tell the blob; those behind them are not held against it, nor written.
func TestOfTwoBlobs(t *testing.T) {
	c := api.Code{K: 3, N: 6}
	// Long enough that no payload of the one is the other's.
	right, other := sample(20, 1), sample(20, 2)
	d := sum(right)
	for gone := range 6 {
		for which := range 1 << 6 {
			w := of(t, 6)
			met, wrong := 0, false // whether one of the first three that are sound is the other blob's
			for i := range 6 {
				if i == gone {
					continue
				}
				blob := right
				if which>>i&1 == 1 {
					blob = other
					wrong = wrong || met < 3
				}
				met++
				put(t, w, i, shardOf(t, c, blob, d, i))
			}
			was := w.Copy()
			if wrong {
				mends(t, w, c, d, 0, api.ErrLost, 6)
			} else {
				mends(t, w, c, d, 1, api.OK, 8)
				put(t, was, gone, own(t, c, right, gone))
			}
			alike(t, w, was)
		}
	}
}

// A cut at each single call of Mend: first all are got, then, store by store, one is put and synced; what was made is told.
func TestCutAtEachCallOfMend(t *testing.T) {
	for _, c := range codes() {
		lacks := c.N - c.K
		whole := laid(t, c, "blob", signs(c.K, c.N))
		calls := c.N + 2*lacks
		for after := range calls {
			w := whole.Copy()
			same(t, w.Cut(after), api.OK)
			puts, syncs := max(after-c.N+1, 0)/2, max(after-c.N, 0)/2
			mends(t, w, c, sum("blob"), syncs, api.ErrCut, after+1)
			same(t, w.Dark(), true)
			holders(t, w, c, "blob", signs(c.K+puts, c.N))
			stand(t, w, c, "blob", signs(c.K+syncs, c.N))
			mends(t, w, c, sum("blob"), 0, api.ErrCut, 1)
		}
		w := whole.Copy()
		same(t, w.Cut(calls), api.OK)
		mends(t, w, c, sum("blob"), lacks, api.OK, calls)
		same(t, w.Dark(), false)
		mends(t, w, c, sum("blob"), 0, api.ErrCut, 1)
	}
}

// Likewise where one is sound in between, one does not answer, one refuses, one is full, and one has another object under the name: ErrCut is ahead of ErrFull and ErrIO.
func TestCutAtEachCallOfAMixedMend(t *testing.T) {
	c := api.Code{K: 2, N: 8}
	blob := "blob"
	whole := laid(t, c, blob, "-+---+--")
	strike(t, whole, refusing(0))
	strike(t, whole, down(2))
	put(t, whole, 3, api.Object{Name: own(t, c, blob, 3).Name, Data: "another object"})
	strike(t, whole, full(4))
	held := slices.Repeat([]string{"-+---+--"}, 10) // eight Get, Put of 0, of 3
	held = append(held,
		"-+-+-+--",             // Sync of 3
		"-+-+-+--",             // Put of 4
		"-+-+-+--",             // Put of 6
		"-+-+-++-",             // Sync of 6
		"-+-+-++-", "-+-+-+++") // Put and Sync of 7
	good := slices.Repeat([]string{"-+---+--"}, 11)
	good = append(good, "-+-+-+--", "-+-+-+--", "-+-+-+--", "-+-+-++-", "-+-+-++-")
	for after := range held {
		w := whole.Copy()
		same(t, w.Cut(after), api.OK)
		mends(t, w, c, sum(blob), plus(good[after])-2, api.ErrCut, after+1)
		holders(t, w, c, blob, held[after])
		stand(t, w, c, blob, good[after])
	}
	mends(t, whole, c, sum(blob), 3, api.ErrFull, len(held))
	stand(t, whole, c, blob, "-+-+-+++")
}

// ErrLost is told where the puts would begin: a cut behind the last Get is not met.
func TestCutBehindALostBlob(t *testing.T) {
	c := api.Code{K: 2, N: 3}
	for after := range 4 {
		w := laid(t, c, "blob", "--+")
		same(t, w.Cut(after), api.OK)
		if after < 3 {
			mends(t, w, c, sum("blob"), 0, api.ErrCut, after+1)
		} else {
			mends(t, w, c, sum("blob"), 0, api.ErrLost, 3)
		}
	}
}

// keeps are what may survive of two writes a store: nothing, all, and pieces of them, store by store otherwise.
func keeps(n int) [][]api.Survive {
	all := [][]api.Survive{nil, {}}
	for _, keep := range [][]int{{-1, -1}, {0, 0}, {10, 10}, {api.MaxObject, api.MaxObject}, {api.MaxObject, 3}, {-1, api.MaxObject}} {
		alike, apart := make([]api.Survive, n), make([]api.Survive, n)
		for i := range n {
			alike[i].Keep = keep
			apart[i].Keep = []int{keep[i%2], keep[(i+1)%2]}
		}
		all = append(all, alike, apart)
	}
	return all
}

// P10.2: behind a Mend that was OK the power's going takes nothing of it, whatever survives, if what was sound stood for good; what was under way of another one neither.
func TestPowerBehindAMend(t *testing.T) {
	for _, c := range codes() {
		d := sum("blob")
		for _, survives := range keeps(c.N) {
			w := laid(t, c, "blob", signs(c.K, c.N))
			for i := range c.N {
				// Not synced yet; what is mended goes over it, where it is not sound.
				if i >= c.K {
					same(t, w.Put(i, api.Object{Name: shard.Name(d, i), Data: "another object"}), api.OK)
				}
			}
			mends(t, w, c, d, c.N-c.K, api.OK, c.N+2*(c.N-c.K))
			for i := range c.N {
				same(t, w.Put(i, api.Object{Name: "a", Data: "behind it"}), api.OK)
			}
			same(t, w.Crash(survives), api.OK)
			holders(t, w, c, "blob", signs(c.N, c.N))
			tells(t, w, c, d, signs(c.N, c.N))
		}
	}
}

// P10.2: a Mend that was cut off anywhere, whatever survives, takes nothing of what was sound, and the next one makes all whole.
func TestMendedBehindACut(t *testing.T) {
	for _, c := range codes() {
		d := sum("blob")
		text := strings.Repeat("-", c.N-c.K) + strings.Repeat("+", c.K)
		whole := laid(t, c, "blob", text)
		for _, survives := range keeps(c.N) {
			for after := range c.N + 2*(c.N-c.K) {
				w := whole.Copy()
				same(t, w.Cut(after), api.OK)
				n, e := Mend(w, c, d)
				same(t, e, api.ErrCut)
				same(t, w.Crash(survives), api.OK)
				all, e := Of(w, c, d)
				same(t, e, api.OK)
				lacks := 0
				for i, is := range all {
					if !is && (text[i] == '+' || i < n) {
						t.Fatalf("code %v, cut behind %d: that of %d is not sound", c, after, i)
					}
					if !is {
						lacks++
					}
				}
				mends(t, w, c, d, lacks, api.OK, c.N+2*lacks)
				stand(t, w, c, "blob", signs(c.N, c.N))
			}
		}
	}
}

// P10.1: other blobs' shards are left as they are, and those of the same blob by another code.
func TestOthersLeft(t *testing.T) {
	c := api.Code{K: 2, N: 3}
	w := laid(t, c, "blob", "+-+")
	for i := range 3 {
		put(t, w, i, own(t, c, "another one", i))
		same(t, w.Put(i, api.Object{Name: "m0", Data: "manifest"}), api.OK)
	}
	want := w.Copy()
	mends(t, w, c, sum("blob"), 1, api.OK, 5)
	put(t, want, 1, own(t, c, "blob", 1))
	alike(t, w, want)
	// By another code nothing of it is sound.
	other := api.Code{K: 1, N: 3}
	tells(t, w, other, sum("blob"), "---")
	mends(t, w, other, sum("blob"), 0, api.ErrLost, 3)
	alike(t, w, want)
}

// No store stops answering within a call, so that its sync alone would fail: what is answered then is asked of the step itself.
func TestNotKnownToStand(t *testing.T) {
	none, silent, sound := got{e: api.ErrNone}, got{e: api.ErrDown}, got{sound: true}
	wrong := got{e: api.OK}
	for _, test := range []struct {
		all     []got
		answers []api.Errno // of those that are made again, in their row
		n       int
		want    api.Errno
	}{
		{[]got{sound, none, wrong}, []api.Errno{api.OK, api.OK}, 2, api.OK},
		{[]got{sound, none, wrong}, []api.Errno{api.ErrDown, api.OK}, 1, api.ErrIO},
		{[]got{sound, none, wrong}, []api.Errno{api.OK, api.ErrDown}, 1, api.ErrIO},
		{[]got{none, none, wrong}, []api.Errno{api.ErrDown, api.ErrFull, api.ErrDown}, 0, api.ErrFull},
		{[]got{none, silent, wrong}, []api.Errno{api.OK, api.ErrCut}, 1, api.ErrCut},
		{[]got{none, sound, wrong}, []api.Errno{api.ErrFull, api.ErrCut}, 0, api.ErrCut},
		{[]got{silent, silent, sound}, nil, 0, api.ErrIO},
		{[]got{sound, sound}, nil, 0, api.OK},
		{[]got{none, none, none}, []api.Errno{api.ErrCut}, 0, api.ErrCut},
		{[]got{none, none, none}, []api.Errno{api.ErrIO, api.ErrArg, api.OK}, 1, api.ErrIO},
	} {
		asked := -1
		left := test.answers
		n, e := mended(test.all, func(i int) api.Errno {
			if i <= asked || len(left) == 0 || test.all[i].sound || test.all[i].e == api.ErrDown {
				t.Fatalf("%v: asked of %d behind %d", test, i, asked)
			}
			asked = i
			answer := left[0]
			left = left[1:]
			return answer
		})
		if n != test.n || e != test.want || len(left) != 0 {
			t.Errorf("%v: %d, %d; %d not asked", test, n, e, len(left))
		}
	}
}

// The iterator tells the sound ones in their row, and stops where it is told to.
func TestSoundOnesInTheirRow(t *testing.T) {
	all := []got{{}, {sound: true, payload: "a"}, {e: api.ErrDown}, {sound: true, payload: "b"}, {sound: true, payload: "c"}}
	for k, want := range []string{"abc", "a", "ab", "abc", "abc", "abc"} {
		var numbers []int
		text := ""
		for i, payload := range sound(all) {
			numbers = append(numbers, i)
			text += payload
			if len(numbers) == k {
				break
			}
		}
		same(t, text, want)
		if !slices.Equal(numbers, []int{1, 3, 4}[:len(want)]) {
			t.Errorf("numbers %v", numbers)
		}
	}
}
