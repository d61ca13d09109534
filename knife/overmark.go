package knife

import (
	"iter"
	"slices"

	"earmark/api"
	"earmark/ear"
)

const (
	maxKeep         = 16
	maxOvermarkCuts = 2
)

// Overmark returns the mark that is cut out of m by the least number of cuts, at most most, and is apart from all marks of keep, with the cuts, and whether there is one.
func Overmark(m api.Mark, keep []api.Mark, b api.Budget, most int) (api.Mark, []api.Change, bool, api.Errno) {
	if err := checkOvermark(m, keep, b, most); err != api.OK {
		return api.Mark{}, nil, false, err
	}
	x, ok := firstApart(overmarks(m, most), keep, b)
	if !ok {
		return api.Mark{}, nil, false, api.OK
	}
	l, _, _ := PlanMark(m, x)
	return x, l, true, api.OK
}

func checkOvermark(m api.Mark, keep []api.Mark, b api.Budget, most int) api.Errno {
	if err := checkMarks(m, keep...); err != api.OK {
		return err
	}
	if err := CheckBudget(b); err != api.OK {
		return err
	}
	if err := checkCount(most, maxOvermarkCuts); err != api.OK {
		return err
	}
	if len(keep) > maxKeep {
		return api.ErrLimit
	}
	return api.OK
}

// overmarks returns the marks that at most most cuts make of a valid mark: those that need fewer cuts first, and those that need equally many in their order.
func overmarks(m api.Mark, most int) []api.Mark {
	found := search[api.Mark]{cuts: cutOutOfMark, worth: always}.within(m, api.Budget{Cuts: most})
	var l []api.Mark
	for cuts := range most + 1 {
		made := found.finds[api.Budget{Cuts: cuts}]
		slices.SortFunc(made, ear.CompareMarks)
		l = append(l, made...)
	}
	return l
}

// cutOutOfMark yields what single cuts of one of its ears make of a valid mark.
func cutOutOfMark(m api.Mark) iter.Seq[api.Mark] {
	return func(yield func(api.Mark) bool) {
		for near := range cutOut(m.Near) {
			if !yield(api.Mark{Near: near, Far: m.Far}) {
				return
			}
		}
		for far := range cutOut(m.Far) {
			if !yield(api.Mark{Near: m.Near, Far: far}) {
				return
			}
		}
	}
}

// firstApart returns the first mark of l that is apart from all marks of keep, and whether there is one.
func firstApart(l, keep []api.Mark, b api.Budget) (api.Mark, bool) {
	keep = slices.Clone(keep)
	for _, x := range l {
		i := slices.IndexFunc(keep, func(k api.Mark) bool { return !areApart(x, k, b) })
		if i < 0 {
			return x, true
		}
		// The mark with which this one clashes is the likeliest to clash with the next one.
		keep[0], keep[i] = keep[i], keep[0]
	}
	return api.Mark{}, false
}
