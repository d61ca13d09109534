package knife

import (
	"slices"

	"earmark/api"
	"earmark/ear"
)

// Clash returns the least mark that both m and n can come to look like, each within b, and whether there is one.
func Clash(m, n api.Mark, b api.Budget) (api.Mark, bool, api.Errno) {
	if err := checkPair(m, n, b); err != api.OK {
		return api.Mark{}, false, err
	}
	met, ok := meet(m, n, b, changesOfBoth(b))
	return met, ok, api.OK
}

// Apart reports whether m and n cannot come to look like the same mark, each within b.
func Apart(m, n api.Mark, b api.Budget) (bool, api.Errno) {
	if err := checkPair(m, n, b); err != api.OK {
		return false, err
	}
	return areApart(m, n, b), api.OK
}

// areApart reports whether two valid marks are apart. It tries few changes first: marks that clash often do so soon, and going through all changes takes much longer.
func areApart(m, n api.Mark, b api.Budget) bool {
	for most := gap(m.Near, n.Near, b) + gap(m.Far, n.Far, b); most <= changesOfBoth(b); most++ {
		if _, ok := meet(m, n, b, most); ok {
			return false
		}
	}
	return true
}

// changesOfBoth returns how many changes two marks can have together, each within b.
func changesOfBoth(b api.Budget) int { return 2 * (b.Weather + b.Cuts) }

// meet searches for marks that two valid marks can both come to look like, each within b, and finds at least those that take at most so many changes of both together. It returns the least mark found, and whether there is one.
func meet(m, n api.Mark, b api.Budget, most int) (api.Mark, bool) {
	nearGap, farGap := gap(m.Near, n.Near, b), gap(m.Far, n.Far, b)
	var near, far []meeting
	// The ears that are less alike come first: once their meetings are known, less is left for the other ears.
	if nearGap > farGap {
		near = meetings(m.Near, n.Near, b, most-farGap)
		far = meetings(m.Far, n.Far, b, most-fewestChanges(near))
	} else {
		far = meetings(m.Far, n.Far, b, most-nearGap)
		near = meetings(m.Near, n.Near, b, most-fewestChanges(far))
	}
	return firstMark(near, far, b)
}

// meeting is an ear that two ears can both come to look like, and what that costs each of them.
type meeting struct {
	ear   api.Ear
	costs [2]costs
}

// meetings returns ears that two valid ears can both come to look like, each within b, in their order: at least those that take at most so many changes of both together.
func meetings(e, f api.Ear, b api.Budget, most int) []meeting {
	if gap(e, f, b) > most {
		return nil
	}
	ours, theirs := toward(e, f, b, most), toward(f, e, b, most)
	var l []meeting
	for x, c := range ours {
		if d, ok := theirs[x]; ok {
			l = append(l, meeting{x, [2]costs{c, d}})
		}
	}
	slices.SortFunc(l, func(a, b meeting) int { return ear.Compare(a.ear, b.ear) })
	return l
}

// toward returns the costs of what e can become within b, as long as f can still become the same within so many changes of both together.
func toward(e, f api.Ear, b api.Budget, most int) map[api.Ear]costs {
	worth := func(x api.Ear, changes int) bool { return changes+gap(x, f, b) <= most }
	return earSearch(worth).within(e, b).costs
}

// fewestChanges returns the least number of changes of both ears together that a meeting takes; more than any two budgets have if there is none.
func fewestChanges(l []meeting) int {
	n := 2 * never
	for _, x := range l {
		n = min(n, x.costs[0].changes()+x.costs[1].changes())
	}
	return n
}

// firstMark returns the first mark of meetings of both ears that costs each of two marks no more than b, and whether there is one.
func firstMark(near, far []meeting, b api.Budget) (api.Mark, bool) {
	partners := map[[2]costs]int{}
	for _, x := range near {
		i, ok := partners[x.costs]
		if !ok {
			i = slices.IndexFunc(far, func(y meeting) bool {
				return fit(x.costs[0], y.costs[0], b) && fit(x.costs[1], y.costs[1], b)
			})
			partners[x.costs] = i
		}
		if i >= 0 {
			return api.Mark{Near: x.ear, Far: far[i].ear}, true
		}
	}
	return api.Mark{}, false
}
