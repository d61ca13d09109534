package knife

import (
	"cmp"
	"slices"

	"earmark/api"
)

// Looks reports whether m can come to look like seen within b.
func Looks(m, seen api.Mark, b api.Budget) (bool, api.Errno) {
	_, ok, err := Way(m, seen, b)
	return ok, err
}

// Way returns the least sequence of changes within b from m to seen, and whether there is one.
func Way(m, seen api.Mark, b api.Budget) ([]api.Change, bool, api.Errno) {
	if err := checkPair(m, seen, b); err != api.OK {
		return nil, false, err
	}
	near, far := gap(m.Near, seen.Near, b), gap(m.Far, seen.Far, b)
	if near+far > b.Weather+b.Cuts {
		return nil, false, api.OK
	}
	l, ok := leastOfBoth(ways(m.Near, seen.Near, b), ways(m.Far, seen.Far, b), b)
	return l, ok, api.OK
}

// CheckWay returns ErrChange unless l leads from m to seen within b.
func CheckWay(m, seen api.Mark, b api.Budget, l []api.Change) api.Errno {
	if err := checkPair(m, seen, b); err != api.OK {
		return err
	}
	made, _, err := StepAll(m, l)
	if err != api.OK {
		return err
	}
	if made != seen || !allows(b, l) {
		return api.ErrChange
	}
	return api.OK
}

// checkPair returns the first error of two marks and a budget.
func checkPair(m, n api.Mark, b api.Budget) api.Errno {
	if err := checkMarks(m, n); err != api.OK {
		return err
	}
	return CheckBudget(b)
}

// allows reports whether b has as many steps and cuts as l.
func allows(b api.Budget, l []api.Change) bool {
	for _, c := range l {
		b = without(b, c)
	}
	return b.Weather >= 0 && b.Cuts >= 0
}

// without returns what a change leaves of b.
func without(b api.Budget, c api.Change) api.Budget {
	if c.Knife {
		b.Cuts--
	} else {
		b.Weather--
	}
	return b
}

// leastOfBoth returns the least sequence within b that consists of a way of the near ear and one of the far ear, and whether there is one. None in which the two are mixed is less: changes of the near ear come first in the order.
func leastOfBoth(near, far [][]api.Change, b api.Budget) ([]api.Change, bool) {
	var both [][]api.Change
	for _, x := range near {
		for _, y := range far {
			if l := slices.Concat(x, ofFarEar(y)); allows(b, l) {
				both = append(both, l)
			}
		}
	}
	if len(both) == 0 {
		return nil, false
	}
	return slices.MinFunc(both, compareWays), true
}

// ofFarEar returns changes of the near ear as changes of the far ear.
func ofFarEar(l []api.Change) []api.Change {
	l = slices.Clone(l)
	for i := range l {
		l[i].Far = true
	}
	return l
}

func compareWays(a, b []api.Change) int {
	if c := cmp.Compare(len(a), len(b)); c != 0 {
		return c
	}
	return slices.CompareFunc(a, b, compareChanges)
}

func compareChanges(a, b api.Change) int {
	x, y := ranks(a), ranks(b)
	return slices.Compare(x[:], y[:])
}

// ranks returns the numbers by which changes are ordered.
func ranks(c api.Change) [9]int {
	r := [...]int{0, 0, c.Step.Kind, c.Step.Edge, c.Step.At, c.Cut.Kind, c.Cut.Edge, c.Cut.At, c.Cut.To}
	if c.Far {
		r[0] = 1
	}
	if c.Knife {
		r[1] = 1
	}
	return r
}

// ways returns, for each number of steps and cuts within b that lead from e to f while no fewer do, the least sequence of exactly so many.
func ways(e, f api.Ear, b api.Budget) [][]api.Change {
	var l [][]api.Change
	known := noCosts()
	for steps := range b.Weather + 1 {
		for cuts := range b.Cuts + 1 {
			if known[steps] <= cuts {
				continue
			}
			if way, ok := wayOf(e, f, api.Budget{Weather: steps, Cuts: cuts}); ok {
				l = append(l, way)
				known = known.and(steps, cuts)
			}
		}
	}
	return l
}

// wayOf returns the least sequence from e to f that uses up b, as changes of the near ear, and whether there is one.
func wayOf(e, f api.Ear, b api.Budget) ([]api.Change, bool) {
	if b == (api.Budget{}) {
		return nil, e == f
	}
	if gap(e, f, b) > b.Weather+b.Cuts {
		return nil, false
	}
	for c, made := range changes(e, b) {
		if rest, ok := wayOf(made, f, without(b, c)); ok {
			return append([]api.Change{c}, rest...), true
		}
	}
	return nil, false
}
