package health

import (
	"slices"
	"testing"

	"strongbox/api"
	"strongbox/code"
	"strongbox/shard"
	"strongbox/world"
)

// book are the two calls by the chapter's words and nothing else: it looks at the stores as no call does, and then makes the calls that the words tell, one by one.
type book struct {
	w *world.World
	c api.Code
}

// sound says of each store whether its shard is sound, with its payload; no call is counted for it.
func (b book) sound(digest string) ([]bool, []string) {
	all, payloads := make([]bool, b.c.N), make([]string, b.c.N)
	for i := range b.c.N {
		for _, o := range b.w.Objects(i) {
			if !b.w.Up(i) || o.Name != shard.Name(digest, i) {
				continue
			}
			s, e := shard.Read(o)
			if e == api.OK && s.Code == b.c && s.Digest == digest && s.Index == i {
				all[i], payloads[i] = true, s.Payload
			}
		}
	}
	return all, payloads
}

// gets makes the calls by which all are got; and no, if the power went.
func (b book) gets(digest string) bool {
	for i := range b.c.N {
		if _, e := b.w.Get(i, shard.Name(digest, i)); e == api.ErrCut {
			return false
		}
	}
	return true
}

func (b book) of(digest string) ([]bool, api.Errno) {
	all, _ := b.sound(digest)
	if !b.gets(digest) {
		return nil, api.ErrCut
	}
	return all, api.OK
}

// told is the blob of a digest, if it can be told.
func (b book) told(digest string) (string, bool) {
	all, payloads := b.sound(digest)
	var have []int
	var some []string
	for i, is := range all {
		if is && len(have) < b.c.K {
			have = append(have, i)
			some = append(some, payloads[i])
		}
	}
	if len(have) < b.c.K {
		return "", false
	}
	blob, e := code.Decode(b.c, have, some)
	return blob, e == api.OK && sum(blob) == digest
}

func (b book) mend(t *testing.T, digest string) (int, api.Errno) {
	t.Helper()
	all, _ := b.sound(digest)
	blob, is := b.told(digest)
	if !b.gets(digest) {
		return 0, api.ErrCut
	}
	if !slices.Contains(all, false) {
		return 0, api.OK
	}
	if !is {
		return 0, api.ErrLost
	}
	made := 0
	met := map[api.Errno]int{}
	for i := range b.c.N {
		if all[i] {
			continue
		}
		e := api.ErrDown
		if b.w.Up(i) {
			e = b.w.Put(i, own(t, b.c, blob, i))
		}
		if e == api.OK {
			e = b.w.Sync(i)
		}
		if e == api.OK {
			made++
			continue
		}
		met[e]++
		if e == api.ErrCut {
			break
		}
	}
	for _, e := range []api.Errno{api.ErrCut, api.ErrFull} {
		if met[e] > 0 {
			return made, e
		}
	}
	if len(met) > 0 {
		return made, api.ErrIO
	}
	return made, api.OK
}

// dice are numbers that are the same ones each time.
type dice struct{ x uint64 }

func (d *dice) below(n int) int {
	d.x = d.x*6364136223846793005 + 1442695040888963407
	return int(d.x>>33) % n
}

func (d *dice) blob() string { return []string{"", "blob", "bolb", sample(300, 1)}[d.below(4)] }

func (d *dice) fault(n int) api.Fault {
	kinds := []uint8{api.Wipe, api.Lose, api.Lose, api.Bend, api.Bend, api.Down, api.Up, api.Up, api.Up, api.Refuse, api.Refuse, api.Room}
	f := api.Fault{Kind: kinds[d.below(len(kinds))], Store: d.below(n), N: d.below(4), At: d.below(400), C: d.below(256)}
	switch f.Kind {
	case api.Room:
		f.N = d.below(1000)
	case api.Refuse:
		f.N = d.below(2)
	}
	return f
}

func (d *dice) survives(n int) []api.Survive {
	l := make([]api.Survive, d.below(n+2))
	for i := range l {
		for range d.below(5) {
			l[i].Keep = append(l[i].Keep, []int{-1, 0, 60, 90, api.MaxObject}[d.below(5)])
		}
	}
	return l
}

// stray is an object that looks like a shard's of its store, and may be another one's.
func (d *dice) stray(t *testing.T, c api.Code, i int) api.Object {
	t.Helper()
	blob := d.blob()
	switch d.below(4) {
	case 0:
		return api.Object{Name: shard.Name(sum(blob), i), Data: d.blob()}
	case 1:
		c.K = 1 + d.below(c.N)
	case 2:
		return shardOf(t, c, d.blob(), sum(blob), i)
	}
	return own(t, c, blob, i)
}

// lay puts a blob's shards to all stores of both worlds, and may sync them.
func lay(t *testing.T, d *dice, w *world.World, b book) {
	t.Helper()
	blob, syncs := d.blob(), d.below(3) > 0
	for i := range b.c.N {
		o := own(t, b.c, blob, i)
		same(t, w.Put(i, o), b.w.Put(i, o))
		if syncs {
			same(t, w.Sync(i), b.w.Sync(i))
		}
	}
}

// asked does one of the two calls with a world, and with its book's, and tells what was answered.
func asked(t *testing.T, d *dice, w *world.World, b book) api.Errno {
	t.Helper()
	digest := sum(d.blob())
	if d.below(4) == 0 {
		got, e := Of(w, b.c, digest)
		want, we := b.of(digest)
		same(t, e, we)
		if !slices.Equal(got, want) {
			t.Fatalf("Of: %v, not %v", got, want)
		}
		return e
	}
	got, e := Mend(w, b.c, digest)
	want, we := b.mend(t, digest)
	same(t, e, we)
	same(t, got, want)
	alike(t, w, b.w)
	return e
}

// step does one thing with a world, and with its book's, and tells what was answered.
func step(t *testing.T, d *dice, w *world.World, b book) api.Errno {
	t.Helper()
	switch d.below(14) {
	default:
		return asked(t, d, w, b)
	case 0, 1:
		lay(t, d, w, b)
	case 2:
		after := d.below(3*b.c.N + 1)
		w.Cut(after)
		b.w.Cut(after)
	case 3:
		l := d.survives(b.c.N)
		w.Crash(l)
		b.w.Crash(l)
	case 4, 5, 6:
		f := d.fault(b.c.N)
		same(t, w.Strike(f), b.w.Strike(f))
	case 7:
		i := d.below(b.c.N)
		o := d.stray(t, b.c, i)
		same(t, w.Put(i, o), b.w.Put(i, o))
	}
	return api.OK
}

// P10.1 to P10.3: whatever happened to the stores, what is answered, what is called and what comes of it is as the book has it.
func TestAsTheBook(t *testing.T) {
	met := map[api.Errno]int{}
	for seed := range 1500 {
		d := &dice{uint64(seed)}
		n := 1 + seed%5
		if seed%10 == 9 {
			n = 1 + d.below(most)
		}
		w := of(t, n)
		b := book{of(t, n), api.Code{K: 1 + d.below(n), N: n}}
		for range 40 {
			met[step(t, d, w, b)]++
			same(t, w.Calls(), b.w.Calls())
			same(t, w.Dark(), b.w.Dark())
			sameSeen(t, w, b.w)
		}
	}
	for _, e := range []api.Errno{api.OK, api.ErrCut, api.ErrFull, api.ErrIO, api.ErrLost} {
		if met[e] < 100 {
			t.Errorf("error %d was met %d times", e, met[e])
		}
	}
}
