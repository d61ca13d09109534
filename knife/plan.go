package knife

import (
	"earmark/api"
	"earmark/ear"
)

// Over returns the ears that can be cut out of e by at most n cuts, in their order.
func Over(e api.Ear, n int) ([]api.Ear, api.Errno) {
	if err := ear.Check(e); err != api.OK {
		return nil, err
	}
	if err := checkCount(n, api.MaxChanges); err != api.OK {
		return nil, err
	}
	return outcomes(e, api.Budget{Cuts: n}).sorted(ear.Compare), api.OK
}

// Can reports whether f can be cut out of e, by any number of cuts.
func Can(e, f api.Ear) (bool, api.Errno) {
	_, ok, err := Least(e, f)
	return ok, err
}

// Least returns the least number of cuts by which f can be cut out of e, and whether it can.
func Least(e, f api.Ear) (int, bool, api.Errno) {
	if err := ear.CheckMark(api.Mark{Near: e, Far: f}); err != api.OK {
		return 0, false, err
	}
	n, ok := cutsBetween(e, f)
	return n, ok, api.OK
}

// Plan returns the least sequence of cuts from e to f, and whether there is one.
func Plan(e, f api.Ear) ([]api.Cut, bool, api.Errno) {
	n, ok, err := Least(e, f)
	if err != api.OK || !ok {
		return nil, false, err
	}
	var l []api.Cut
	for left := n - 1; left >= 0; left-- {
		for c, made := range successors(e) {
			if more, ok := cutsBetween(made, f); ok && more == left {
				l = append(l, c)
				e = made
				break
			}
		}
	}
	return l, true, api.OK
}

// PlanMark returns the least sequence of changes by the knife from one mark to another one, and whether there is one.
func PlanMark(from, to api.Mark) ([]api.Change, bool, api.Errno) {
	if err := checkMarks(from, to); err != api.OK {
		return nil, false, err
	}
	near, nearOk, _ := Plan(from.Near, to.Near)
	far, farOk, _ := Plan(from.Far, to.Far)
	if !nearOk || !farOk {
		return nil, false, api.OK
	}
	var l []api.Change
	for _, c := range near {
		l = append(l, api.Change{Knife: true, Cut: c})
	}
	for _, c := range far {
		l = append(l, api.Change{Far: true, Knife: true, Cut: c})
	}
	return l, true, api.OK
}

// Victims returns the indices of the marks of l that can be cut out of m by at most n cuts on both ears.
func Victims(m api.Mark, l []api.Mark, n int) ([]int, api.Errno) {
	if err := checkMarks(m, l...); err != api.OK {
		return nil, err
	}
	if err := checkCount(n, api.MaxChanges); err != api.OK {
		return nil, err
	}
	var victims []int
	for i, x := range l {
		near, nearOk := cutsBetween(m.Near, x.Near)
		far, farOk := cutsBetween(m.Far, x.Far)
		if nearOk && farOk && near+far <= n {
			victims = append(victims, i)
		}
	}
	return victims, api.OK
}

// checkMarks returns the first error of some marks.
func checkMarks(m api.Mark, more ...api.Mark) api.Errno {
	if err := ear.CheckMark(m); err != api.OK {
		return err
	}
	for _, x := range more {
		if err := ear.CheckMark(x); err != api.OK {
			return err
		}
	}
	return api.OK
}

// checkCount returns ErrArg unless n is from 0 to most.
func checkCount(n, most int) api.Errno {
	if n < 0 || n > most {
		return api.ErrArg
	}
	return api.OK
}

// cutsBetween returns the least number of cuts that lead from e to f, both valid, and whether any do. This needs no search: the tip can be cut first, which takes the last slots along where it has to. From then on no slot goes back; so its neighbours, where it is cut in f, stay Uncut, and are in no cut's way. A hole has only to do with the slots beside it.
func cutsBetween(e, f api.Ear) (int, bool) {
	if e.Tip > f.Tip {
		return 0, false
	}
	n := 0
	if e.Tip < f.Tip {
		e, _ = cutTip(e, api.Cut{To: f.Tip})
		n++
	}
	for at := range api.Slots {
		if e.Upper[at] > f.Upper[at] || e.Lower[at] > f.Lower[at] {
			return 0, false
		}
	}
	for at := range api.Spots {
		more, ok := cutsOfHole(e, f, at)
		if !ok {
			return 0, false
		}
		n += more
	}
	return n + differing(e.Upper, f.Upper) + differing(e.Lower, f.Lower), true
}

// cutsOfHole returns how many cuts it takes, besides one for each slot that differs, to make of a hole of e what it is in f, and whether that can be done.
func cutsOfHole(e, f api.Ear, at int) (int, bool) {
	if e.Holes[at] == f.Holes[at] {
		return 0, true
	}
	if f.Holes[at] {
		return 1, e.Upper[at] != api.Key && e.Lower[at] != api.Key
	}
	opens := false
	for _, edge := range [...]int{api.UpperEdge, api.LowerEdge} {
		from, to := edgeOf(&e, edge)[at], edgeOf(&f, edge)[at]
		if from != to && opened(from) == to {
			return 0, true
		}
		opens = opens || to == api.Key
	}
	return 1, opens
}

// differing returns in how many slots two edges differ.
func differing(a, b [api.Slots]int) int {
	n := 0
	for at, value := range a {
		if value != b[at] {
			n++
		}
	}
	return n
}
