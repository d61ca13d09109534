package register

import (
	"iter"

	"earmark/api"
	"earmark/knife"
)

// table holds the marks that are there, each at its id. The other elements are nil.
type table []*api.Held

// mark returns the mark with an id, which is from 0 to MaxId; nil if it is not there.
func (t table) mark(id int) *api.Held {
	if id >= len(t) {
		return nil
	}
	return t[id]
}

// marks yields the marks by increasing id.
func (t table) marks() iter.Seq[*api.Held] {
	return func(yield func(*api.Held) bool) {
		for _, h := range t {
			if h != nil && !yield(h) {
				return
			}
		}
	}
}

func (t table) add(h api.Held) { t[h.Id] = &h }

// state is what events have made of no marks at all, with the terms by which the next one is judged.
type state struct {
	table
	*terms
}

// use is a mark that an event brings into use on a fold, with its id.
type use struct {
	id   int
	mark api.Mark
	fold int
}

// walk lets events happen one after the other, as long as they are possible, and returns the error of the first one that is not.
func (s *state) walk(events ...api.Event) (err api.Errno) {
	defer func() {
		if x := recover(); x != nil {
			err = x.(api.Errno)
		}
	}()
	for _, e := range events {
		s.happen(e)
	}
	return api.OK
}

// happen does e, and panics with its error if it is not possible.
func (s *state) happen(e api.Event) {
	u, brings, err := s.brought(e)
	if err != api.OK {
		panic(err)
	}
	if brings && s.rival(u) != nil {
		panic(api.ErrRefused)
	}
	s.do(e)
}

// do does an event that is possible.
func (s *state) do(e api.Event) {
	h := s.mark(e.Id)
	switch e.Kind {
	case api.AdmitE:
		s.add(api.Held{Id: e.No, Mark: e.Mark, Flock: e.Flock, Grazing: e.Grazing, From: -1})
	case api.SellE:
		h.Flock = e.Flock
	case api.SplitE:
		s.add(api.Held{Id: e.No, Mark: e.Mark, Flock: e.Flock, Grazing: h.Grazing, From: e.Id})
	case api.RestE:
		h.Rests = true
	case api.ResumeE:
		h.Rests = false
	case api.MoveE:
		h.Grazing = e.Grazing
	}
}

// brought returns the mark that e brings into use, and whether it brings one; or the error with which e is not possible, whatever other marks there are.
func (s *state) brought(e api.Event) (use, bool, api.Errno) {
	if e.Kind == api.AdmitE {
		return use{e.No, e.Mark, s.folds[e.Grazing]}, true, api.OK
	}
	h := s.mark(e.Id)
	if h == nil {
		return use{}, false, api.ErrUnknown
	}
	if !admits(h, e) {
		return use{}, false, api.ErrOwner
	}
	fold := s.folds[h.Grazing]
	switch e.Kind {
	case api.SplitE:
		return use{e.No, e.Mark, fold}, true, api.OK
	case api.ResumeE:
		return use{h.Id, h.Mark, fold}, true, api.OK
	case api.MoveE:
		next := s.folds[e.Grazing]
		return use{h.Id, h.Mark, next}, !h.Rests && next != fold, api.OK
	}
	return use{}, false, api.OK
}

// admits reports whether an event that is about the mark h is possible for its present holder.
func admits(h *api.Held, e api.Event) bool {
	switch e.Kind {
	case api.SellE:
		return h.Flock != e.Flock
	case api.SplitE:
		return !h.Rests && h.Flock != e.Flock && isCutOut(e.Mark, h.Mark)
	case api.RestE:
		return !h.Rests
	case api.ResumeE:
		return h.Rests
	}
	return h.Grazing != e.Grazing
}

// isCutOut reports whether each ear of m can be cut out of that of the other mark.
func isCutOut(m, from api.Mark) bool {
	near, _ := knife.Can(from.Near, m.Near)
	far, _ := knife.Can(from.Far, m.Far)
	return near && far
}

// inUse yields the marks in use on a fold, by increasing id.
func (s *state) inUse(fold int) iter.Seq[*api.Held] {
	return func(yield func(*api.Held) bool) {
		for h := range s.marks() {
			if !h.Rests && s.folds[h.Grazing] == fold && !yield(h) {
				return
			}
		}
	}
}

// rival returns the mark with the least id that is in use on the fold of u and clashes with it; nil if there is none.
func (s *state) rival(u use) *api.Held {
	for h := range s.inUse(u.fold) {
		if s.clash(u, h) {
			return h
		}
	}
	return nil
}
