package quorum

import (
	"iter"
	"strconv"

	"strongbox/api"
	"strongbox/frame"
	"strongbox/world"
)

// replica is what stands in a slot; where it is not sound, there is no manifest.
type replica struct {
	sound bool
	Best
}

// held is what a store has in m0 and m1, and whether it answers.
type held struct {
	answers bool
	slots   [2]replica
}

// has says whether a manifest stands in one of the slots.
func (h *held) has(b Best) bool {
	is := replica{sound: true, Best: b}
	return h.slots[0] == is || h.slots[1] == is
}

// over is the stamp of the base over which a manifest is put.
type over api.Stamp

// slot is which one is taken: the base stays, and so does the newer one where the base is in neither.
func (o over) slot(h *held) int {
	base := func(r replica) bool { return r.sound && r.Stamp == api.Stamp(o) }
	first, second := h.slots[0], h.slots[1]
	switch {
	case base(first):
		return 1
	case base(second), !first.sound:
		return 0
	case !second.sound, frame.Less(second.Stamp, first.Stamp):
		return 1
	}
	return 0
}

// name is that of a slot's object.
func name(slot int) string { return "m" + strconv.Itoa(slot) }

// gather gets what all stores have, store by store.
func gather(w *world.World) ([]held, api.Errno) {
	if w == nil {
		return nil, api.ErrArg
	}
	all := make([]held, w.N())
	for i := range all {
		h := &all[i]
		h.answers = true
		for slot := range h.slots {
			data, e := w.Get(i, name(slot))
			if e == api.ErrCut {
				return nil, e
			}
			h.answers = h.answers && (e == api.OK || e == api.ErrNone)
			h.slots[slot] = looked(data, w.N())
		}
	}
	return all, api.OK
}

// looked is what stands in a slot, looked at, in a world of n stores; the data of nothing is no manifest.
func looked(data string, n int) replica {
	f, e := frame.Read(data)
	if e != api.OK || f.Code.N != n {
		return replica{}
	}
	return replica{sound: true, Best: Best(f)}
}

// answering tells the stores that answer, with what they have.
func answering(all []held) iter.Seq2[int, *held] {
	return func(yield func(int, *held) bool) {
		for i := range all {
			if all[i].answers && !yield(i, &all[i]) {
				return
			}
		}
	}
}

// answers is how many answer.
func answers(all []held) int {
	n := 0
	for range answering(all) {
		n++
	}
	return n
}

// newest is the first one met of the highest stamp, if there is any.
func newest(all []held) (Best, bool) {
	var best replica
	for _, h := range answering(all) {
		for _, r := range h.slots {
			if r.sound && (!best.sound || frame.Less(best.Stamp, r.Stamp)) {
				best = r
			}
		}
	}
	return best.Best, best.sound
}

// each does something with each store that answers, and counts where it was OK; only the power's going keeps the others back.
func each(all []held, do func(i int, h *held) api.Errno) (int, api.Errno) {
	done := 0
	for i, h := range answering(all) {
		switch do(i, h) {
		case api.OK:
			done++
		case api.ErrCut:
			return 0, api.ErrCut
		}
	}
	return done, api.OK
}

// enough is each, of which so many are needed.
func enough(all []held, need int, do func(i int, h *held) api.Errno) api.Errno {
	done, e := each(all, do)
	if e == api.OK && done < need {
		return api.ErrIO
	}
	return e
}

// putter puts a manifest that may be into the slot of a store that is told, then syncs the store: also where the put was refused, as the chapter asks for both. What the store has then is kept in mind, so that what is put next goes by it.
func putter(w *world.World, b Best, slot func(*held) int) func(i int, h *held) api.Errno {
	data, _ := frame.Make(frame.Frame(b))
	put := looked(data, w.N())
	return func(i int, h *held) api.Errno {
		at := slot(h)
		e := w.Put(i, api.Object{Name: name(at), Data: data})
		if e == api.ErrCut {
			return e
		}
		if e == api.OK {
			h.slots[at] = put
		}
		if e := w.Sync(i); e != api.OK {
			return e
		}
		return e
	}
}
