package register

import (
	"cmp"

	"earmark/api"
	"earmark/ear"
	"earmark/knife"
)

// State returns the marks on the day at, as known on the day known, by increasing id.
func State(r api.Register, at, known int) ([]api.Held, api.Errno) {
	s, err := stateOn(r, at, known)
	if err != api.OK {
		return nil, err
	}
	var l []api.Held
	for h := range s.marks() {
		l = append(l, *h)
	}
	return l, api.OK
}

// Get returns one of these marks.
func Get(r api.Register, id, at, known int) (api.Held, api.Errno) {
	s, err := stateOn(r, at, known, inRange(isId(id)))
	if err != api.OK {
		return api.Held{}, err
	}
	h := s.mark(id)
	if h == nil {
		return api.Held{}, api.ErrUnknown
	}
	return *h, api.OK
}

// OwnedBy returns the ids of the marks of a flock.
func OwnedBy(r api.Register, flock, at, known int) ([]int, api.Errno) {
	s, err := stateOn(r, at, known, inRange(isFlock(flock)))
	if err != api.OK {
		return nil, err
	}
	var l []int
	for h := range s.marks() {
		if h.Flock == flock {
			l = append(l, h.Id)
		}
	}
	return l, api.OK
}

// Find returns the id of the mark in use on the fold of a grazing that has exactly the shape m, and whether there is one.
func Find(r api.Register, m api.Mark, grazing, at, known int) (int, bool, api.Errno) {
	l, err := among(r, m, grazing, at, known, func(h *api.Held) bool { return h.Mark == m })
	if err != api.OK || len(l) == 0 {
		return 0, false, err
	}
	return l[0], true, api.OK
}

// Candidates returns the ids of the marks in use on the fold of a grazing that can come to look like seen.
func Candidates(r api.Register, seen api.Mark, grazing, at, known int) ([]int, api.Errno) {
	return among(r, seen, grazing, at, known, func(h *api.Held) bool {
		looks, _ := knife.Looks(h.Mark, seen, r.Budget)
		return looks
	})
}

// Clashes returns the ids of the marks in use on the fold of a grazing that are not apart from m.
func Clashes(r api.Register, m api.Mark, grazing, at, known int) ([]int, api.Errno) {
	return among(r, m, grazing, at, known, func(h *api.Held) bool {
		is, _ := knife.Apart(h.Mark, m, r.Budget)
		return !is
	})
}

// Suggest returns the mark that is cut out of the mark id by the least number of cuts, at most most, and can be admitted beside all marks in use on its fold, with the cuts, and whether there is one.
func Suggest(r api.Register, id, at, known, most int) (api.Mark, []api.Change, bool, api.Errno) {
	s, err := stateOn(r, at, known, inRange(isId(id)))
	if err != api.OK {
		return api.Mark{}, nil, false, err
	}
	h := s.mark(id)
	if h == nil {
		return api.Mark{}, nil, false, api.ErrUnknown
	}
	if h.Rests {
		return api.Mark{}, nil, false, api.ErrOwner
	}
	var keep []api.Mark
	for x := range s.inUse(s.folds[h.Grazing]) {
		keep = append(keep, x.Mark)
	}
	return knife.Overmark(h.Mark, keep, r.Budget, most)
}

// stateOn returns the state of r on the day at, as known on the day known; or the first error: that of r, one of those of the other arguments, or that of the days.
func stateOn(r api.Register, at, known int, errs ...api.Errno) (*state, api.Errno) {
	t, err := examine(r)
	if err = cmp.Or(err, cmp.Or(errs...), inRange(isDay(at) && isDay(known))); err != api.OK {
		return nil, err
	}
	return t.stateKnown(r, at, known), api.OK
}

// stateKnown returns the state of a valid register on the day at, as known on the day known.
func (t *terms) stateKnown(r api.Register, at, known int) *state {
	return t.stateOf(inOrder(r, func(e api.Event) bool { return e.At <= at && e.Known <= known }))
}

// among returns the ids of the marks in use on the fold of a grazing that fit, by increasing id; m is a mark that is asked for.
func among(r api.Register, m api.Mark, grazing, at, known int, fits func(*api.Held) bool) ([]int, api.Errno) {
	s, err := stateOn(r, at, known, ear.CheckMark(m), inRange(isGrazing(r.Fell, grazing)))
	if err != api.OK {
		return nil, err
	}
	var l []int
	for h := range s.inUse(s.folds[grazing]) {
		if fits(h) {
			l = append(l, h.Id)
		}
	}
	return l, api.OK
}
