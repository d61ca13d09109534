package weather

import (
	"earmark/api"
	"earmark/ear"
)

// Count returns how many marks m can come to look like by at most k steps on both ears together.
func Count(m api.Mark, k int) (int, api.Errno) {
	if err := checkMark(m, k); err != api.OK {
		return 0, err
	}
	r := markReachOf(m, k)
	count := 0
	for _, n := range r.near.steps {
		count += len(r.far.upTo[k-n])
	}
	return count, api.OK
}

// MarkDistance returns the least number of steps on both ears from m to seen, and whether at most k lead there.
func MarkDistance(m, seen api.Mark, k int) (int, bool, api.Errno) {
	l, ok, err := MarkWay(m, seen, k)
	return len(l), ok, err
}

// MarkWay returns the least sequence of at most k changes from m to seen, and whether there is one.
func MarkWay(m, seen api.Mark, k int) ([]api.Change, bool, api.Errno) {
	if err := checkMarks(m, seen, k); err != api.OK {
		return nil, false, err
	}
	near, ok := wayTo(m.Near, seen.Near, k)
	if !ok {
		return nil, false, api.OK
	}
	far, ok := wayTo(m.Far, seen.Far, k-len(near))
	if !ok {
		return nil, false, api.OK
	}
	var l []api.Change
	for _, s := range near {
		l = append(l, api.Change{Step: s})
	}
	for _, s := range far {
		l = append(l, api.Change{Far: true, Step: s})
	}
	return l, true, api.OK
}

// MarkMeet returns the least mark to which at most k steps lead from each of a and b, and whether there is one.
func MarkMeet(a, b api.Mark, k int) (api.Mark, bool, api.Errno) {
	if err := checkMarks(a, b, k); err != api.OK {
		return api.Mark{}, false, err
	}
	met, ok := meetingOf(a, b, k)
	return met, ok, api.OK
}

// Apart reports whether no mark is reached from both a and b by at most k steps from each.
func Apart(a, b api.Mark, k int) (bool, api.Errno) {
	_, ok, err := MarkMeet(a, b, k)
	return err == api.OK && !ok, err
}

// Radius returns the least k, from 0 to most, with which a and b are not apart; most + 1 if there is none.
func Radius(a, b api.Mark, most int) (int, api.Errno) {
	if err := checkMarks(a, b, most); err != api.OK {
		return 0, err
	}
	k := 0
	for ; k <= most; k++ {
		if _, ok := meetingOf(a, b, k); ok {
			break
		}
	}
	return k, api.OK
}

// checkMarks returns the first error of two marks and a limit.
func checkMarks(a, b api.Mark, k int) api.Errno {
	if err := ear.CheckMark(a); err != api.OK {
		return err
	}
	return checkMark(b, k)
}

// checkMark returns the first error of a mark and a limit.
func checkMark(m api.Mark, k int) api.Errno {
	if err := ear.CheckMark(m); err != api.OK {
		return err
	}
	return checkLimit(k)
}

// meetingOf returns the least mark to which at most k steps lead from each of two valid marks, and whether there is one.
func meetingOf(a, b api.Mark, k int) (api.Mark, bool) {
	return firstOf(markReachOf(a, k).marks, markReachOf(b, k).has)
}

// markReach holds the marks to which at most k steps on both ears together lead from a mark.
type markReach struct {
	near, far reach
	k         int
}

func markReachOf(m api.Mark, k int) markReach {
	return markReach{near: reachOf(m.Near, k), far: reachOf(m.Far, k), k: k}
}

// marks yields all marks of r in their order.
func (r markReach) marks(yield func(api.Mark) bool) {
	for _, near := range r.near.ears() {
		for _, far := range r.far.upTo[r.k-r.near.steps[near]] {
			if !yield(api.Mark{Near: near, Far: far}) {
				return
			}
		}
	}
}

func (r markReach) has(m api.Mark) bool {
	near, ok := r.near.steps[m.Near]
	if !ok {
		return false
	}
	far, ok := r.far.steps[m.Far]
	return ok && near+far <= r.k
}
