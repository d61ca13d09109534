package weather

import (
	"earmark/api"
	"earmark/ear"
)

// kind tells the word of a kind of steps, and how many values Edge and At can have: 1 if the kind has none, which leaves only 0.
type kind struct {
	word       string
	edges, ats int
}

var kinds = [...]kind{
	api.FrostW: {"frost", 1, 1},
	api.TearW:  {"tear", 2, api.Spots},
	api.RunW:   {"run", 2, api.Slots - 2},
	api.CloseW: {"close", 1, api.Spots},
	api.HealW:  {"heal", 1, 1},
	api.ShutW:  {"shut", 2, api.Slots},
	api.WearW:  {"wear", 2, api.Slots},
}

// allSteps yields all well-formed steps in their order.
func allSteps(yield func(api.Step) bool) {
	for k := api.FrostW; k <= api.WearW; k++ {
		for edge := range kinds[k].edges {
			for at := range kinds[k].ats {
				if !yield(api.Step{Kind: k, Edge: edge, At: at}) {
					return
				}
			}
		}
	}
}

// step is a well-formed step as something that can be done to an ear.
type step api.Step

// makes returns what s makes of a valid ear, and whether it applies to it.
func (s step) makes(e api.Ear) (api.Ear, bool) {
	switch s.Kind {
	case api.FrostW:
		return frost(e)
	case api.TearW:
		return tear(e, s.Edge, s.At)
	case api.RunW:
		return run(e, s.Edge, s.At)
	case api.CloseW:
		return loseHole(e, s.At)
	case api.HealW:
		return heal(e)
	case api.ShutW:
		return turnNotch(e, s.Edge, s.At, api.Uncut)
	case api.WearW:
		return turnNotch(e, s.Edge, s.At, api.Bit)
	}
	return e, false
}

func frost(e api.Ear) (api.Ear, bool) {
	if e.Tip == api.Cropped {
		return e, false
	}
	e.Tip = api.Cropped
	e.Upper[api.Slots-1], e.Lower[api.Slots-1] = api.Uncut, api.Uncut
	return e, true
}

func tear(e api.Ear, edge, at int) (api.Ear, bool) {
	slots := edgeOf(&e, edge)
	if at > 0 && slots[at-1] != api.Uncut || slots[at+1] != api.Uncut {
		return e, false
	}
	if slots[at] == api.Uncut {
		slots[at] = api.Bit
	} else {
		slots[at] = api.Key
	}
	return loseHole(e, at)
}

func run(e api.Ear, edge, at int) (api.Ear, bool) {
	slots := edgeOf(&e, edge)
	if slots[at] == api.Uncut || slots[at+2] == api.Uncut {
		return e, false
	}
	slots[at], slots[at+1], slots[at+2] = api.Uncut, api.Key, api.Uncut
	return e, true
}

func loseHole(e api.Ear, at int) (api.Ear, bool) {
	was := e.Holes[at]
	e.Holes[at] = false
	return e, was
}

func heal(e api.Ear) (api.Ear, bool) {
	if e.Tip != api.Slit {
		return e, false
	}
	e.Tip = api.Whole
	return e, true
}

func turnNotch(e api.Ear, edge, at, value int) (api.Ear, bool) {
	slots := edgeOf(&e, edge)
	if slots[at] != api.Notch {
		return e, false
	}
	slots[at] = value
	return e, true
}

// edgeOf returns the slots of an edge of e.
func edgeOf(e *api.Ear, edge int) *[api.Slots]int {
	if edge == api.UpperEdge {
		return &e.Upper
	}
	return &e.Lower
}

// following returns the ears that single steps make of a valid ear; an ear that two steps make stands there twice.
func following(e api.Ear) []api.Ear {
	var l []api.Ear
	for s := range allSteps {
		if made, ok := step(s).makes(e); ok {
			l = append(l, made)
		}
	}
	return l
}

// preceding returns the valid ears of which single steps make e; an ear of which two steps make it stands there twice.
func preceding(e api.Ear) []api.Ear {
	var l []api.Ear
	for s := range allSteps {
		l = append(l, sources(e, step(s).guesses(e), step(s).makes)...)
	}
	return l
}

// sources returns those of the guesses that are valid and that makes turns into e.
func sources(e api.Ear, guesses []api.Ear, makes func(api.Ear) (api.Ear, bool)) []api.Ear {
	var l []api.Ear
	for _, guess := range guesses {
		if ear.Check(guess) != api.OK {
			continue
		}
		if made, ok := makes(guess); ok && made == e {
			l = append(l, guess)
		}
	}
	return l
}

// guesses returns ears, valid or not, among which are all those of which s makes e.
func (s step) guesses(e api.Ear) []api.Ear {
	slots := edgeOf(&e, s.Edge)
	switch s.Kind {
	case api.FrostW:
		return withTips(e)
	case api.TearW:
		e.Holes[s.At] = true
		return withAnySlot([]api.Ear{e}, s.Edge, s.At)
	case api.RunW:
		if slots[s.At+1] != api.Key {
			return nil
		}
		slots[s.At+1] = api.Uncut
		return withAnySlot(withAnySlot([]api.Ear{e}, s.Edge, s.At), s.Edge, s.At+2)
	case api.CloseW:
		e.Holes[s.At] = true
	case api.HealW:
		e.Tip = api.Slit
	case api.ShutW, api.WearW:
		slots[s.At] = api.Notch
	}
	return []api.Ear{e}
}

// withTips returns the ears of which frost may make e, if it makes e of any.
func withTips(e api.Ear) []api.Ear {
	if e.Tip != api.Cropped {
		return nil
	}
	var l []api.Ear
	for tip := api.Whole; tip < api.Cropped; tip++ {
		e.Tip = tip
		l = append(l, e)
	}
	return withAnySlot(withAnySlot(l, api.UpperEdge, api.Slots-1), api.LowerEdge, api.Slots-1)
}

// withAnySlot returns each ear of l with each value in a slot.
func withAnySlot(l []api.Ear, edge, at int) []api.Ear {
	var all []api.Ear
	for _, e := range l {
		for value := api.Uncut; value <= api.Key; value++ {
			edgeOf(&e, edge)[at] = value
			all = append(all, e)
		}
	}
	return all
}
