package health

import (
	"strongbox/api"
	"strongbox/code"
	"strongbox/sha"
	"strongbox/shard"
	"strongbox/world"
)

// Mend makes a blob's shards again that are not sound.
func Mend(w *world.World, c api.Code, digest string) (int, api.Errno) {
	all, e := gather(w, c, digest)
	if e != api.OK || count(all) == c.N {
		return 0, e
	}
	have, payloads := first(all, c.K)
	blob, e := code.Decode(c, have, payloads)
	if e != api.OK || sha.Sum(blob) != digest {
		return 0, api.ErrLost
	}
	return mended(all, func(i int) api.Errno {
		// What gave the blob gives each payload, and its shards may be.
		payload, _ := code.Rebuild(c, have, payloads, i)
		o, _ := shard.Make(shard.Shard{Code: c, Digest: digest, Index: i, Payload: payload})
		if e := w.Put(i, o); e != api.OK {
			return e
		}
		return w.Sync(i)
	})
}

// count is how many are sound.
func count(all []got) int {
	n := 0
	for range sound(all) {
		n++
	}
	return n
}

// first are the numbers and the payloads of the first k that are sound, or of fewer, if there are no more.
func first(all []got, k int) ([]int, []string) {
	var have []int
	var payloads []string
	for i, payload := range sound(all) {
		have = append(have, i)
		payloads = append(payloads, payload)
		if len(have) == k {
			break
		}
	}
	return have, payloads
}

// mended has each one made again that is not sound, where a store can be written to, and counts those that were; one that was not keeps none of the others back, unless the power is gone.
func mended(all []got, again func(i int) api.Errno) (int, api.Errno) {
	made, worst := 0, api.OK
	for i, g := range all {
		if g.sound {
			continue
		}
		e := g.e
		if e == api.OK || e == api.ErrNone {
			e = again(i)
		}
		switch {
		case e == api.OK:
			made++
		case e == api.ErrCut:
			return made, e
		case e == api.ErrFull:
			worst = e
		case worst == api.OK:
			worst = api.ErrIO
		}
	}
	return made, worst
}
