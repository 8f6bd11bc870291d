package world

import "strongbox/api"

// Cut says how many calls are done still.
func (w *World) Cut(after int) api.Errno {
	if w == nil {
		return api.ErrNil
	}
	if after < 0 {
		return api.ErrArg
	}
	w.cut, w.left = true, after
	return api.OK
}

// Dark tells whether the power is gone.
func (w *World) Dark() bool { return w != nil && w.dark }

// Crash is a crash: l tells of each store, by its place, what survives.
func (w *World) Crash(l []api.Survive) api.Errno {
	if w == nil {
		return api.ErrNil
	}
	for i := range w.stores {
		var keep []int
		if i < len(l) {
			keep = l[i].Keep
		}
		w.stores[i].Crash(keep)
	}
	w.dark, w.cut, w.left = false, false, 0
	return api.OK
}

// Strike is a fault.
func (w *World) Strike(f api.Fault) api.Errno {
	if w == nil {
		return api.ErrNil
	}
	k := w.at(f.Store)
	if k == nil {
		return api.ErrArg
	}
	e := k.Strike(f)
	if e == api.OK && f.Kind != api.Up && f.Kind != api.Room {
		k.suspect = true
	}
	return e
}

// Suspects are the suspect stores, rising.
func (w *World) Suspects() []int {
	var all []int
	for i := range w.N() {
		if w.stores[i].suspect {
			all = append(all, i)
		}
	}
	return all
}

// Clear clears those that are sound.
func (w *World) Clear() {
	for i := range w.N() {
		if w.stores[i].Sound() {
			w.stores[i].suspect = false
		}
	}
}
