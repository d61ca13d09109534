package weather

import "earmark/api"

// Distance returns the least number of steps from e to f, and whether at most k lead there.
func Distance(e, f api.Ear, k int) (int, bool, api.Errno) {
	l, ok, err := Way(e, f, k)
	return len(l), ok, err
}

// Way returns the least sequence of at most k steps from e to f, and whether there is one.
func Way(e, f api.Ear, k int) ([]api.Step, bool, api.Errno) {
	if err := checkEars(e, f, k); err != api.OK {
		return nil, false, err
	}
	l, ok := wayTo(e, f, k)
	return l, ok, api.OK
}

// wayTo returns the least sequence of at most k steps from e to f, and whether there is one.
func wayTo(e, f api.Ear, k int) ([]api.Step, bool) {
	for n := range k + 1 {
		if l, ok := wayOf(e, f, n); ok {
			return l, true
		}
	}
	return nil, false
}

// wayOf returns the least sequence of exactly n steps from e to f, and whether there is one.
func wayOf(e, f api.Ear, n int) ([]api.Step, bool) {
	if n == 0 {
		return nil, e == f
	}
	if !inSight(e, f, n) {
		return nil, false
	}
	for s := range allSteps {
		made, ok := step(s).makes(e)
		if !ok {
			continue
		}
		if rest, ok := wayOf(made, f, n-1); ok {
			return append([]api.Step{s}, rest...), true
		}
	}
	return nil, false
}

// inSight returns false only if n steps cannot lead from e to f, so that the search for a way does not go where none can be. Tips and holes do not come back, and each that has changed takes a step, which changes at most two slots (a tip) or one (a hole); other steps change at most three.
func inSight(e, f api.Ear, n int) bool {
	slots := 0
	if e.Tip != f.Tip {
		if f.Tip != api.Cropped && (e.Tip != api.Slit || f.Tip != api.Whole) {
			return false
		}
		n--
		slots += 2
	}
	for i, punched := range e.Holes {
		if f.Holes[i] && !punched {
			return false
		}
		if punched && !f.Holes[i] {
			n--
			slots++
		}
	}
	return n >= 0 && differing(e.Upper, f.Upper)+differing(e.Lower, f.Lower) <= slots+3*n
}

func differing(a, b [api.Slots]int) int {
	n := 0
	for i, value := range a {
		if value != b[i] {
			n++
		}
	}
	return n
}
