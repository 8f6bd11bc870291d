package store

import (
	"math"

	"strongbox/api"
)

// Strike strikes by a fault.
func (s *Store) Strike(f api.Fault) api.Errno {
	if s == nil {
		return api.ErrNil
	}
	all := deeds()
	if int(f.Kind) >= len(all) || all[f.Kind] == nil {
		return api.ErrArg
	}
	if f.N < 0 || f.At < 0 || f.C < 0 || f.C > math.MaxUint8 {
		return api.ErrArg
	}
	all[f.Kind](s, f)
	return api.OK
}

// deeds are what faults do, by their kinds.
func deeds() [api.Room + 1]func(*Store, api.Fault) {
	return [api.Room + 1]func(*Store, api.Fault){
		api.Wipe:   (*Store).wipe,
		api.Lose:   (*Store).lose,
		api.Bend:   (*Store).bend,
		api.Down:   (*Store).goDown,
		api.Up:     (*Store).comeUp,
		api.Refuse: (*Store).refuseOne,
		api.Room:   (*Store).takeRoom,
	}
}

func (s *Store) wipe(api.Fault) {
	s.settle()
	s.seen = nil
}

func (s *Store) lose(f api.Fault) {
	s.settle()
	if name, is := s.struck(f); is {
		delete(s.seen, name)
	}
}

func (s *Store) bend(f api.Fault) {
	s.settle()
	name, is := s.struck(f)
	if !is {
		return
	}
	data := []byte(s.seen[name].data)
	if len(data) == 0 {
		return
	}
	data[f.At%len(data)] = byte(f.C)
	s.set(name, content{there: true, data: string(data)})
}

func (s *Store) goDown(api.Fault) { s.down = true }

func (s *Store) comeUp(api.Fault) { s.down = false }

func (s *Store) refuseOne(f api.Fault) { s.refuse = told{is: true, n: f.N} }

func (s *Store) takeRoom(f api.Fault) { s.room = told{is: true, n: f.N} }

// struck is the name of the object that a fault is of; and no, if there are no objects.
func (s *Store) struck(f api.Fault) (string, bool) {
	names := s.names()
	if len(names) == 0 {
		return "", false
	}
	return names[f.N%len(names)], true
}
