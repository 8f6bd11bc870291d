package stripe

import (
	"slices"
	"strings"
	"testing"

	"strongbox/api"
	"strongbox/world"
)

// holders fails if the stores that hold their shard are not those of a text, a + or - for each one; no call is counted for it.
func holders(t *testing.T, w *world.World, c api.Code, blob, want string) {
	t.Helper()
	text := ""
	for i := range c.N {
		if slices.Contains(w.Objects(i), own(t, c, blob, i)) {
			text += "+"
		} else {
			text += "-"
		}
	}
	if text != want {
		t.Fatalf("held: %s, not %s", text, want)
	}
}

// stand fails if the shards that stand for good are not those of a text.
func stand(t *testing.T, w *world.World, c api.Code, blob, want string) {
	t.Helper()
	behind := w.Copy()
	same(t, behind.Crash(nil), api.OK)
	holders(t, behind, c, blob, want)
}

// signs is a + for each of the stores below n, then a - for each other one.
func signs(n, of int) string { return strings.Repeat("+", n) + strings.Repeat("-", of-n) }

// full leaves a store no room.
func full(i int) api.Fault { return api.Fault{Kind: api.Room, Store: i} }

func down(i int) api.Fault { return api.Fault{Kind: api.Down, Store: i} }

func refusing(i int) api.Fault { return api.Fault{Kind: api.Refuse, Store: i} }

// P9.4: written again where all stores hold it, it is asked for and synced alone; also what was put and never synced.
func TestWrittenAgain(t *testing.T) {
	for _, c := range codes() {
		w := of(t, c.N)
		writes(t, w, c, "blob", api.OK, 3*c.N)
		for range 3 {
			writes(t, w, c, "blob", api.OK, 2*c.N)
		}
		for i := range c.N {
			sees(t, w, i, own(t, c, "blob", i))
		}

		w = of(t, c.N)
		for i := range c.N {
			same(t, w.Put(i, own(t, c, "blob", i)), api.OK)
		}
		stand(t, w, c, "blob", signs(0, c.N))
		writes(t, w, c, "blob", api.OK, 2*c.N)
		stand(t, w, c, "blob", signs(c.N, c.N))
	}
}

// P9.4: stores that hold their shard are not put to: they may be full, or refuse.
func TestNothingOverAShard(t *testing.T) {
	c := api.Code{K: 2, N: 4}
	w := of(t, 4)
	put(t, w, 1, own(t, c, "blob", 1))
	put(t, w, 3, own(t, c, "blob", 3))
	strike(t, w, full(1))
	strike(t, w, refusing(3))
	writes(t, w, c, "blob", api.OK, 4+2+4)
	stand(t, w, c, "blob", "++++")
	same(t, w.Put(3, api.Object{Name: "a"}), api.ErrIO)
}

// P9.1, P9.4: whichever stores hold it, those that lack it alone are put to; all are synced.
func TestSomeHold(t *testing.T) {
	for _, c := range []api.Code{{K: 1, N: 1}, {K: 2, N: 3}, {K: 3, N: 5}, {K: 5, N: 5}} {
		for which := range 1 << c.N {
			w := of(t, c.N)
			lacks := 0
			for i := range c.N {
				if which>>i&1 == 1 {
					same(t, w.Put(i, own(t, c, "blob", i)), api.OK)
				} else {
					lacks++
				}
			}
			writes(t, w, c, "blob", api.OK, 2*c.N+lacks)
			stand(t, w, c, "blob", signs(c.N, c.N))
		}
	}
}

// P9.1: another object under the shard's name is put over; what stands under other names stays.
func TestPutOver(t *testing.T) {
	c := api.Code{K: 2, N: 3}
	right := own(t, c, "blob", 1)
	bent := []byte(right.Data)
	bent[60] ^= 1
	wrong := []string{"", "blob", string(bent), right.Data[:80], right.Data + "\x00", own(t, c, "blob", 0).Data,
		shardOf(t, api.Code{K: 1, N: 3}, "blob", sum("blob"), 1).Data, shardOf(t, c, "bolb", sum("blob"), 1).Data}
	for _, data := range wrong {
		w := of(t, 3)
		put(t, w, 1, api.Object{Name: right.Name, Data: data})
		put(t, w, 1, api.Object{Name: "m0", Data: "a manifest"})
		put(t, w, 1, own(t, c, "another one", 1))
		writes(t, w, c, "blob", api.OK, 9)
		stand(t, w, c, "blob", "+++")
		same(t, len(w.Objects(1)), 3)
		data, e := w.Get(1, "m0")
		same(t, data, "a manifest")
		same(t, e, api.OK)
		holders(t, w, c, "another one", "-+-")
	}
}

// P9.1: whichever stores do not answer: they are asked once each, and passed over, as long as K answer; of fewer it is ErrQuorum, and nothing is put.
func TestDown(t *testing.T) {
	for _, c := range []api.Code{{K: 1, N: 1}, {K: 1, N: 3}, {K: 2, N: 3}, {K: 3, N: 3}, {K: 3, N: 5}, {K: 4, N: 6}} {
		for which := range 1 << c.N {
			w := of(t, c.N)
			text, up := "", 0
			for i := range c.N {
				if which>>i&1 == 1 {
					strike(t, w, down(i))
					text += "-"
				} else {
					text += "+"
					up++
				}
			}
			if up < c.K {
				writes(t, w, c, "blob", api.ErrQuorum, c.N)
				holders(t, w, c, "blob", signs(0, c.N))
				continue
			}
			writes(t, w, c, "blob", api.OK, c.N+2*up)
			holders(t, w, c, "blob", text)
			stand(t, w, c, "blob", text)
			if blob, e := Read(w, c, sum("blob")); e != api.OK || blob != "blob" {
				t.Fatalf("code %v, up %s: Read: %q, %d", c, text, blob, e)
			}
		}
	}
}

// P9.1: one fewer than K that answer is ErrQuorum, even where they hold it, or would be full: nothing is put, nothing synced.
func TestQuorumFirst(t *testing.T) {
	c := api.Code{K: 3, N: 4}
	w := of(t, 4)
	same(t, w.Put(0, own(t, c, "blob", 0)), api.OK)
	strike(t, w, down(1))
	strike(t, w, full(2))
	strike(t, w, down(3))
	writes(t, w, c, "blob", api.ErrQuorum, 4)
	holders(t, w, c, "blob", "+---")
	stand(t, w, c, "blob", "----")
	strike(t, w, api.Fault{Kind: api.Up, Store: 3})
	writes(t, w, c, "blob", api.ErrFull, 4+1)
	holders(t, w, c, "blob", "+---")
	stand(t, w, c, "blob", "----")
	strike(t, w, api.Fault{Kind: api.Room, Store: 2, N: 1000})
	writes(t, w, c, "blob", api.OK, 4+2+3)
	stand(t, w, c, "blob", "+-++")
}

// P9.1: whichever stores refuse the write: they are passed over, as long as K hold it; of fewer it is ErrIO, and nothing is synced. Written again it is put where it was refused, alone.
func TestRefused(t *testing.T) {
	for _, c := range []api.Code{{K: 1, N: 1}, {K: 1, N: 3}, {K: 2, N: 3}, {K: 3, N: 3}, {K: 3, N: 5}, {K: 4, N: 6}} {
		for which := range 1 << c.N {
			w := of(t, c.N)
			text, done := "", 0
			for i := range c.N {
				if which>>i&1 == 1 {
					strike(t, w, refusing(i))
					text += "-"
				} else {
					text += "+"
					done++
				}
			}
			if done < c.K {
				writes(t, w, c, "blob", api.ErrIO, 2*c.N)
				holders(t, w, c, "blob", text)
				stand(t, w, c, "blob", signs(0, c.N))
			} else {
				writes(t, w, c, "blob", api.OK, 2*c.N+done)
				holders(t, w, c, "blob", text)
				stand(t, w, c, "blob", text)
			}
			writes(t, w, c, "blob", api.OK, c.N+(c.N-done)+c.N)
			stand(t, w, c, "blob", signs(c.N, c.N))
		}
	}
}

// P9.1: those that held it ahead of the puts count among those that hold it.
func TestHeldAndRefused(t *testing.T) {
	c := api.Code{K: 2, N: 4}
	for _, more := range []bool{false, true} {
		w := of(t, 4)
		put(t, w, 2, own(t, c, "blob", 2))
		for _, i := range []int{0, 1, 3} {
			if i != 1 || !more {
				strike(t, w, refusing(i))
			}
		}
		if more {
			writes(t, w, c, "blob", api.OK, 4+3+2)
			stand(t, w, c, "blob", "-++-")
		} else {
			writes(t, w, c, "blob", api.ErrIO, 4+3)
			holders(t, w, c, "blob", "--+-")
		}
	}
}

// P9.1: a refusal is of one write: a store that refuses a later one takes this one.
func TestRefusedLater(t *testing.T) {
	c := api.Code{K: 3, N: 3}
	w := of(t, 3)
	strike(t, w, api.Fault{Kind: api.Refuse, Store: 1, N: 1})
	writes(t, w, c, "blob", api.OK, 9)
	writes(t, w, c, "another one", api.ErrIO, 6)
	writes(t, w, c, "another one", api.OK, 3+1+3)
}

// P9.1: a put that is answered ErrFull ends the write: what was put ahead of it is there, nothing is put behind it, nothing synced.
func TestFull(t *testing.T) {
	for _, c := range codes() {
		for i := range c.N {
			w := of(t, c.N)
			strike(t, w, full(i))
			writes(t, w, c, "blob", api.ErrFull, c.N+i+1)
			holders(t, w, c, "blob", signs(i, c.N))
			stand(t, w, c, "blob", signs(0, c.N))
			if i+1 < c.N {
				// Neither does a later one's refusal change that, nor an earlier one's.
				strike(t, w, refusing(i+1))
				writes(t, w, c, "blob", api.ErrFull, c.N+1)
				same(t, w.Put(i+1, api.Object{Name: "a"}), api.ErrIO)
			}
			strike(t, w, api.Fault{Kind: api.Room, Store: i, N: api.MaxObject})
			writes(t, w, c, "blob", api.OK, c.N+(c.N-i)+c.N)
			stand(t, w, c, "blob", signs(c.N, c.N))
		}
	}
}

// P9.1: ErrFull is answered ahead of ErrIO, also where so many refused that K cannot hold it any more.
func TestFullBehindRefusals(t *testing.T) {
	c := api.Code{K: 3, N: 4}
	w := of(t, 4)
	strike(t, w, refusing(0))
	strike(t, w, refusing(1))
	strike(t, w, full(2))
	writes(t, w, c, "blob", api.ErrFull, 4+3)
	holders(t, w, c, "blob", "----")
	// What does not answer is never full.
	strike(t, w, down(2))
	writes(t, w, c, "blob", api.OK, 4+3+3)
}

// P9.1: just as many bytes of room as the shard has are enough; one fewer are not.
func TestJustRoom(t *testing.T) {
	c := api.Code{K: 2, N: 3}
	size := len(own(t, c, "blob", 1).Data)
	w := of(t, 3)
	strike(t, w, api.Fault{Kind: api.Room, Store: 1, N: size})
	writes(t, w, c, "blob", api.OK, 9)
	writes(t, w, c, "bolb", api.ErrFull, 5)
	w = of(t, 3)
	strike(t, w, api.Fault{Kind: api.Room, Store: 1, N: size - 1})
	writes(t, w, c, "blob", api.ErrFull, 5)
}

// cutOff is a write whose power goes behind so many calls; it fails if more than one call found it gone.
func cutOff(t *testing.T, w *world.World, c api.Code, after int) *world.World {
	t.Helper()
	cut := w.Copy()
	same(t, cut.Cut(after), api.OK)
	writes(t, cut, c, "blob", api.ErrCut, after+1)
	same(t, cut.Dark(), true)
	return cut
}

// P9.1: wherever the power goes, nothing more is done: first all are asked, then all are put to, then all are synced, store by store, from 0 on.
func TestCutAtEachCallOfAWrite(t *testing.T) {
	for _, c := range codes() {
		w := of(t, c.N)
		for after := range 3 * c.N {
			cut := cutOff(t, w, c, after)
			holders(t, cut, c, "blob", signs(min(max(after-c.N, 0), c.N), c.N))
			stand(t, cut, c, "blob", signs(max(after-2*c.N, 0), c.N))
		}
		same(t, w.Cut(3*c.N), api.OK)
		writes(t, w, c, "blob", api.OK, 3*c.N)
		same(t, w.Dark(), false)
		writes(t, w, c, "blob", api.ErrCut, 1)
		writes(t, w, c, "another one", api.ErrCut, 1)
	}
}

// P9.1: likewise where a store holds it, one does not answer, one refuses, and one has another object under the name.
func TestCutAtEachCallOfAMixedWrite(t *testing.T) {
	c := api.Code{K: 2, N: 6}
	w := of(t, 6)
	same(t, w.Put(1, own(t, c, "blob", 1)), api.OK)
	strike(t, w, down(2))
	strike(t, w, refusing(3))
	put(t, w, 4, api.Object{Name: own(t, c, "blob", 4).Name, Data: "another one"})
	held := []string{"-+----", "-+----", "-+----", "-+----", "-+----", "-+----", // six Get
		"-+----", "++----", "++----", "++--+-", // Put of 0, 3, 4, 5
		"++--++", "++--++", "++--++", "++--++"} // Sync of 0, 1, 4, 5
	for after, want := range held {
		cut := cutOff(t, w, c, after)
		holders(t, cut, c, "blob", want)
		good := "------"
		if after > 10 {
			good = []string{"+-----", "++----", "++--+-"}[after-11]
		}
		stand(t, cut, c, "blob", good)
	}
	writes(t, w, c, "blob", api.OK, len(held))
	stand(t, w, c, "blob", "++--++")
}

// Whether the power goes at the first call, or was gone ahead of it, one call finds that, in each of the three.
func TestDarkFromTheStart(t *testing.T) {
	c := api.Code{K: 2, N: 3}
	w := of(t, 3)
	writes(t, w, c, "blob", api.OK, 9)
	same(t, w.Cut(0), api.OK)
	for range 2 {
		writes(t, w, c, "blob", api.ErrCut, 1)
		writes(t, w, c, "another one", api.ErrCut, 1)
		unread(t, w, c, sum("blob"), api.ErrCut, 1)
		unread(t, w, c, sum("another one"), api.ErrCut, 1)
		all, e := Shards(w, c, sum("blob"))
		same(t, len(all), 0)
		same(t, e, api.ErrCut)
	}
	same(t, w.Crash(nil), api.OK)
	reads(t, w, c, "blob", 2)
}

// A cut at each single call of Read and of Shards: ErrCut, and no call more; none of Read once K are sound.
func TestCutAtEachCallOfAReading(t *testing.T) {
	for _, c := range codes() {
		for gone := range c.N {
			w := of(t, c.N)
			writes(t, w, c, "blob", api.OK, 3*c.N)
			strike(t, w, api.Fault{Kind: api.Wipe, Store: gone})
			needs := c.K
			if gone < c.K {
				needs++
			}
			for after := range c.N + 1 {
				cut := w.Copy()
				same(t, cut.Cut(after), api.OK)
				switch {
				case after < min(needs, c.N):
					unread(t, cut, c, sum("blob"), api.ErrCut, after+1)
					same(t, cut.Dark(), true)
				case needs <= c.N:
					reads(t, cut, c, "blob", needs)
					same(t, cut.Dark(), false)
				default:
					lost(t, cut, c, sum("blob"))
				}

				cut = w.Copy()
				same(t, cut.Cut(after), api.OK)
				if after == c.N {
					shards(t, cut, c, sum("blob"), strings.Repeat("+", gone)+"-"+strings.Repeat("+", c.N-gone-1))
					continue
				}
				all, e := Shards(cut, c, sum("blob"))
				same(t, len(all), 0)
				same(t, e, api.ErrCut)
				same(t, cut.Calls()-w.Calls(), after+1)
			}
		}
	}
}

// keeps are what may survive of two writes a store: nothing, all, and pieces of them, store by store otherwise.
func keeps(n int) [][]api.Survive {
	all := [][]api.Survive{nil, {}}
	for _, keep := range [][]int{{-1, -1}, {0, 0}, {10, 10}, {api.MaxObject, api.MaxObject}, {api.MaxObject, 3}, {-1, api.MaxObject}} {
		alike, apart := make([]api.Survive, n), make([]api.Survive, n)
		for i := range n {
			alike[i].Keep = keep
			apart[i].Keep = []int{keep[i%2], keep[(i+1)%2]}
		}
		all = append(all, alike, apart)
	}
	return all
}

// P9.5: behind a write that was OK the power's going takes nothing of it, whatever survives.
func TestPowerBehindAWrite(t *testing.T) {
	for _, c := range codes() {
		whole := of(t, c.N)
		writes(t, whole, c, "blob", api.OK, 3*c.N)
		for _, survives := range keeps(c.N) {
			w := whole.Copy()
			same(t, w.Crash(survives), api.OK)
			holders(t, w, c, "blob", signs(c.N, c.N))
			reads(t, w, c, "blob", c.K)

			// Another write that was cut off behind it takes nothing of it either.
			for after := range 3 * c.N {
				w := whole.Copy()
				same(t, w.Cut(after), api.OK)
				writes(t, w, c, "another one", api.ErrCut, after+1)
				same(t, w.Crash(survives), api.OK)
				reads(t, w, c, "blob", c.K)
			}
		}
	}
}

// P9.5: a write that only K took, or that was cut off first and then written anew, is read too.
func TestPowerBehindAPoorWrite(t *testing.T) {
	for _, c := range codes() {
		for _, survives := range keeps(c.N) {
			w := of(t, c.N)
			for i := range c.N - c.K {
				strike(t, w, []api.Fault{down(i), refusing(i)}[i%2])
			}
			if _, e := Write(w, c, "blob"); e != api.OK {
				t.Fatalf("code %v: Write: %d", c, e)
			}
			same(t, w.Crash(survives), api.OK)
			reads(t, w, c, "blob", c.N)

			for after := range 3 * c.N {
				w := cutOff(t, of(t, c.N), c, after)
				same(t, w.Crash(survives), api.OK)
				if _, e := Write(w, c, "blob"); e != api.OK {
					t.Fatalf("code %v: Write: %d", c, e)
				}
				same(t, w.Crash(nil), api.OK)
				reads(t, w, c, "blob", c.K)
			}
		}
	}
}

// No store stops answering within a call, so that its sync alone would fail: what is answered then is asked of the step itself.
func TestSyncs(t *testing.T) {
	l, h := lacking, holding
	stands := []standing{h, silent, h, l, h, h}
	for _, test := range []struct {
		refuse []int
		k      int
		want   api.Errno
	}{
		{nil, 4, api.OK}, {nil, 5, api.ErrIO}, {[]int{0}, 3, api.OK}, {[]int{0}, 4, api.ErrIO}, {[]int{5}, 3, api.OK}, {[]int{5}, 4, api.ErrIO},
		{[]int{2, 4}, 2, api.OK}, {[]int{2, 4}, 3, api.ErrIO}, {[]int{0, 2, 4, 5}, 1, api.ErrIO},
	} {
		var asked []int
		e := synced(slices.Clone(stands), test.k, func(i int) api.Errno {
			asked = append(asked, i)
			if slices.Contains(test.refuse, i) {
				return api.ErrDown
			}
			return api.OK
		})
		if e != test.want || !slices.Equal(asked, []int{0, 2, 4, 5}) {
			t.Errorf("K %d, %v refuse: %d, asked %v", test.k, test.refuse, e, asked)
		}
	}
	var asked []int
	same(t, synced(stands, 1, func(i int) api.Errno {
		asked = append(asked, i)
		if i == 2 {
			return api.ErrCut
		}
		return api.OK
	}), api.ErrCut)
	if !slices.Equal(asked, []int{0, 2}) {
		t.Errorf("asked %v", asked)
	}
}
