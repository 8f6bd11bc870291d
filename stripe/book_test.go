package stripe

import (
	"slices"
	"testing"

	"strongbox/api"
	"strongbox/code"
	"strongbox/shard"
	"strongbox/world"
)

// book are the three calls by the chapter's words and nothing else: it looks at the stores as no call does, and then makes the calls that the words tell, one by one.
type book struct {
	w *world.World
	c api.Code
}

// has is what a store has under a name, looked up without a call.
func (b book) has(i int, name string) (string, bool) {
	for _, o := range b.w.Objects(i) {
		if o.Name == name {
			return o.Data, true
		}
	}
	return "", false
}

// gets makes the calls by which stores from 0 on, below n, are asked; and no, if the power went.
func (b book) gets(n int, digest string) bool {
	for i := range n {
		if _, e := b.w.Get(i, shard.Name(digest, i)); e == api.ErrCut {
			return false
		}
	}
	return true
}

func (b book) write(t *testing.T, blob string) (string, api.Errno) {
	t.Helper()
	digest := sum(blob)
	var answered, hold, lack []int
	for i := range b.c.N {
		if !b.w.Up(i) {
			continue
		}
		answered = append(answered, i)
		o := own(t, b.c, blob, i)
		if data, is := b.has(i, o.Name); is && data == o.Data {
			hold = append(hold, i)
		} else {
			lack = append(lack, i)
		}
	}
	if !b.gets(b.c.N, digest) {
		return "", api.ErrCut
	}
	if len(answered) < b.c.K {
		return "", api.ErrQuorum
	}
	for _, i := range lack {
		e := b.w.Put(i, own(t, b.c, blob, i))
		if e == api.ErrCut || e == api.ErrFull {
			return "", e
		}
		if e == api.OK {
			hold = append(hold, i)
		}
	}
	if len(hold) < b.c.K {
		return "", api.ErrIO
	}
	slices.Sort(hold)
	for _, i := range hold {
		if e := b.w.Sync(i); e == api.ErrCut {
			return "", e
		}
	}
	return digest, api.OK
}

// sound says of each store whether its shard is sound, with its payload.
func (b book) sound(digest string) ([]bool, []string) {
	all, payloads := make([]bool, b.c.N), make([]string, b.c.N)
	for i := range b.c.N {
		if !b.w.Up(i) {
			continue
		}
		name := shard.Name(digest, i)
		data, is := b.has(i, name)
		if !is {
			continue
		}
		s, e := shard.Read(api.Object{Name: name, Data: data})
		if e == api.OK && s.Code == b.c && s.Digest == digest && s.Index == i {
			all[i], payloads[i] = true, s.Payload
		}
	}
	return all, payloads
}

func (b book) read(digest string) (string, api.Errno) {
	all, payloads := b.sound(digest)
	var have []int
	var some []string
	asked := 0
	for asked < b.c.N && len(have) < b.c.K {
		if all[asked] {
			have = append(have, asked)
			some = append(some, payloads[asked])
		}
		asked++
	}
	if !b.gets(asked, digest) {
		return "", api.ErrCut
	}
	if len(have) < b.c.K {
		return "", api.ErrLost
	}
	blob, e := code.Decode(b.c, have, some)
	if e != api.OK || sum(blob) != digest {
		return "", api.ErrLost
	}
	return blob, api.OK
}

func (b book) shards(digest string) ([]bool, api.Errno) {
	all, _ := b.sound(digest)
	if !b.gets(b.c.N, digest) {
		return nil, api.ErrCut
	}
	return all, api.OK
}

// dice are numbers that are the same ones each time.
type dice struct{ x uint64 }

func (d *dice) below(n int) int {
	d.x = d.x*6364136223846793005 + 1442695040888963407
	return int(d.x>>33) % n
}

func (d *dice) blob() string { return []string{"", "a", "blob", "bolb", sample(300, 1)}[d.below(5)] }

func (d *dice) fault(n int) api.Fault {
	kinds := []uint8{api.Wipe, api.Lose, api.Lose, api.Bend, api.Bend, api.Down, api.Up, api.Up, api.Up, api.Refuse, api.Refuse, api.Room}
	f := api.Fault{Kind: kinds[d.below(len(kinds))], Store: d.below(n), N: d.below(4), At: d.below(400), C: d.below(256)}
	switch f.Kind {
	case api.Room:
		f.N = d.below(1000)
	case api.Refuse:
		f.N = d.below(2)
	}
	return f
}

func (d *dice) survives(n int) []api.Survive {
	l := make([]api.Survive, d.below(n+2))
	for i := range l {
		for range d.below(5) {
			l[i].Keep = append(l[i].Keep, []int{-1, 0, 60, 90, api.MaxObject}[d.below(5)])
		}
	}
	return l
}

// stray is an object that looks like a shard's of its store, and may be another one's.
func (d *dice) stray(t *testing.T, c api.Code, i int) api.Object {
	t.Helper()
	blob := d.blob()
	as := c
	switch d.below(4) {
	case 0:
		return api.Object{Name: shard.Name(sum(blob), i), Data: d.blob()}
	case 1:
		as.K = 1 + d.below(c.N)
	case 2:
		return shardOf(t, c, d.blob(), sum(blob), i)
	}
	return own(t, as, blob, i)
}

// step does one thing with a world, and with its book's, and tells what was answered.
func step(t *testing.T, d *dice, w *world.World, b book) api.Errno {
	t.Helper()
	c := b.c
	switch d.below(16) {
	default:
		blob := d.blob()
		got, e := Write(w, c, blob)
		want, we := b.write(t, blob)
		same(t, e, we)
		same(t, got, want)
		return e
	case 0, 1, 2, 3:
		digest := sum(d.blob())
		got, e := Read(w, c, digest)
		want, we := b.read(digest)
		same(t, e, we)
		same(t, got, want)
		return e
	case 4, 5:
		digest := sum(d.blob())
		got, e := Shards(w, c, digest)
		want, we := b.shards(digest)
		same(t, e, we)
		if !slices.Equal(got, want) {
			t.Fatalf("Shards: %v, not %v", got, want)
		}
		return e
	case 6:
		after := d.below(4 * c.N)
		w.Cut(after)
		b.w.Cut(after)
	case 7:
		l := d.survives(c.N)
		w.Crash(l)
		b.w.Crash(l)
	case 8, 9:
		f := d.fault(c.N)
		same(t, w.Strike(f), b.w.Strike(f))
	case 10:
		i := d.below(c.N)
		o := d.stray(t, c, i)
		same(t, w.Put(i, o), b.w.Put(i, o))
	}
	return api.OK
}

// P9.1, P9.2: whatever happened to the stores, what is answered, what is called and what comes of it is as the book has it.
func TestAsTheBook(t *testing.T) {
	met := map[api.Errno]int{}
	for seed := range 1500 {
		d := &dice{uint64(seed)}
		n := 1 + seed%5
		if seed%10 == 9 {
			n = 1 + d.below(most)
		}
		w := of(t, n)
		b := book{of(t, n), api.Code{K: 1 + d.below(n), N: n}}
		for range 40 {
			met[step(t, d, w, b)]++
			same(t, w.Calls(), b.w.Calls())
			same(t, w.Dark(), b.w.Dark())
			for i := range n {
				sees(t, w, i, b.w.Objects(i)...)
			}
		}
	}
	for _, e := range []api.Errno{api.OK, api.ErrCut, api.ErrQuorum, api.ErrFull, api.ErrIO, api.ErrLost} {
		if met[e] < 100 {
			t.Errorf("error %d was met %d times", e, met[e])
		}
	}
}
