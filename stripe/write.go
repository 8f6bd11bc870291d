package stripe

import (
	"strongbox/api"
	"strongbox/shard"
	"strongbox/world"
)

// standing is how a store stands to the blob that is written.
type standing int

const (
	silent  standing = iota // it does not answer
	lacking                 // it answers, and does not hold its shard
	holding
)

// objectsOf are a blob's shards as objects, by their stores.
func objectsOf(c api.Code, digest string, payloads []string) []api.Object {
	objects := make([]api.Object, len(payloads))
	for i, payload := range payloads {
		// The shards of a blob that could be encoded may be, each one.
		objects[i], _ = shard.Make(shard.Shard{Code: c, Digest: digest, Index: i, Payload: payload})
	}
	return objects
}

// written asks all stores, then puts, then syncs, and says what went wrong.
func written(w *world.World, k int, digest string, objects []api.Object) api.Errno {
	stands, e := asked(w, digest, objects)
	if e != api.OK {
		return e
	}
	if count(stands, lacking)+count(stands, holding) < k {
		return api.ErrQuorum
	}
	_, e = each(stands, lacking, func(i int) api.Errno {
		e := w.Put(i, objects[i])
		if e == api.OK {
			stands[i] = holding
		}
		return e
	})
	if e != api.OK {
		return e
	}
	if count(stands, holding) < k {
		return api.ErrIO
	}
	return synced(stands, k, w.Sync)
}

// asked tells how each store stands.
func asked(w *world.World, digest string, objects []api.Object) ([]standing, api.Errno) {
	stands := make([]standing, len(objects))
	e := ask(w, digest, func(i int, had api.Object, e api.Errno) bool {
		switch {
		case had == objects[i]:
			stands[i] = holding
		case e != api.ErrDown:
			stands[i] = lacking
		}
		return true
	})
	return stands, e
}

// synced syncs the stores that hold their shard, of which k at least must have done so.
func synced(stands []standing, k int, sync func(i int) api.Errno) api.Errno {
	done, e := each(stands, holding, sync)
	if e == api.OK && done < k {
		return api.ErrIO
	}
	return e
}

// each does something with store by store of those that stand so, and counts where it was done; others are passed over, but for an answer behind which nothing more may be done.
func each(stands []standing, so standing, do func(i int) api.Errno) (int, api.Errno) {
	done := 0
	for i, stand := range stands {
		if stand != so {
			continue
		}
		switch e := do(i); e {
		case api.OK:
			done++
		case api.ErrCut, api.ErrFull:
			return 0, e
		}
	}
	return done, api.OK
}

// count is how many stores stand so.
func count(stands []standing, so standing) int {
	n := 0
	for _, stand := range stands {
		if stand == so {
			n++
		}
	}
	return n
}
