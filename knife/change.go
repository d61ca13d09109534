package knife

import (
	"iter"

	"earmark/api"
	"earmark/ear"
	"earmark/weather"
)

// Step returns what a change makes of m.
func Step(m api.Mark, c api.Change) (api.Mark, api.Errno) {
	if err := ear.CheckMark(m); err != api.OK {
		return api.Mark{}, err
	}
	if !wellFormed(c) {
		return api.Mark{}, api.ErrChange
	}
	e := &m.Near
	if c.Far {
		e = &m.Far
	}
	made, ok := changed(*e, c)
	if !ok {
		return api.Mark{}, api.ErrChange
	}
	*e = made
	return m, api.OK
}

// StepAll returns what the changes of l make of m, one after the other; if one does not apply, its index.
func StepAll(m api.Mark, l []api.Change) (api.Mark, int, api.Errno) {
	if err := ear.CheckMark(m); err != api.OK {
		return api.Mark{}, 0, err
	}
	for i, c := range l {
		made, err := Step(m, c)
		if err != api.OK {
			return api.Mark{}, i, err
		}
		m = made
	}
	return m, 0, api.OK
}

func wellFormed(c api.Change) bool {
	if c.Knife {
		return (c.Step == api.Step{}) && Check(c.Cut) == api.OK
	}
	return (c.Cut == api.Cut{}) && weather.Check(c.Step) == api.OK
}

// changed returns what a well-formed change makes of a valid ear, and whether it applies to it.
func changed(e api.Ear, c api.Change) (api.Ear, bool) {
	if c.Knife {
		made, err := Apply(e, c.Cut)
		return made, err == api.OK
	}
	made, err := weather.Apply(e, c.Step)
	return made, err == api.OK
}

// changes yields the changes that apply to a valid ear, as changes of a near ear, in their order, and what each of them makes of it: steps and cuts as far as b has any.
func changes(e api.Ear, b api.Budget) iter.Seq2[api.Change, api.Ear] {
	return func(yield func(api.Change, api.Ear) bool) {
		if b.Weather > 0 {
			steps, _ := weather.Steps(e)
			for _, s := range steps {
				made, _ := weather.Apply(e, s)
				if !yield(api.Change{Step: s}, made) {
					return
				}
			}
		}
		if b.Cuts > 0 {
			for c, made := range successors(e) {
				if !yield(api.Change{Knife: true, Cut: c}, made) {
					return
				}
			}
		}
	}
}
