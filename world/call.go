package world

import "strongbox/api"

// Put puts an object into a store.
func (w *World) Put(i int, o api.Object) api.Errno {
	_, e := ask(w, i, alone(func(k *kept) api.Errno { return k.Put(o) }))
	return e
}

// Get is an object's bytes.
func (w *World) Get(i int, name string) (string, api.Errno) {
	return ask(w, i, func(k *kept) (string, api.Errno) { return k.Get(name) })
}

// Del takes an object away.
func (w *World) Del(i int, name string) api.Errno {
	_, e := ask(w, i, alone(func(k *kept) api.Errno { return k.Del(name) }))
	return e
}

// List are a store's names.
func (w *World) List(i int) ([]string, api.Errno) {
	return ask(w, i, (*kept).List)
}

// Sync makes a store's writes stand for good.
func (w *World) Sync(i int) api.Errno {
	_, e := ask(w, i, alone((*kept).Sync))
	return e
}

// ask counts a call, and hands it to the store of a number while the power is there.
func ask[A any](w *World, i int, call func(*kept) (A, api.Errno)) (A, api.Errno) {
	var none A
	if w == nil {
		return none, api.ErrNil
	}
	k := w.at(i)
	if k == nil {
		return none, api.ErrArg
	}
	w.count()
	if w.dark {
		return none, api.ErrCut
	}
	return call(k)
}

// alone is a call that answers an error alone, as one that ask takes.
func alone(call func(*kept) api.Errno) func(*kept) (struct{}, api.Errno) {
	return func(k *kept) (struct{}, api.Errno) { return struct{}{}, call(k) }
}

// count counts a call; the power goes here, not at the cut's last call, so that Dark tells it of no call that was done.
func (w *World) count() {
	w.calls++
	if !w.cut {
		return
	}
	if w.left == 0 {
		w.dark = true
		return
	}
	w.left--
}

// Calls is how many calls were counted, those that found the power gone too.
func (w *World) Calls() int {
	if w == nil {
		return 0
	}
	return w.calls
}
