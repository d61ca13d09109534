package stray

import "earmark/api"

// Reason returns a proof that no valid assignment gives the stray i to the flock, and whether that is so.
func Reason(c api.Claim, i, flock int) (api.Reason, bool, api.Errno) {
	if err := checkBoth(c, i, flock); err != api.OK {
		return api.Reason{}, false, err
	}
	p, paths := planWithout(c, i)
	o := wish(c, i, flock)
	if p.permits(o, paths) {
		return api.Reason{}, false, api.OK
	}
	return reasonAgainst(c, i, o, paths), true, api.OK
}

// CheckReason returns ErrReason unless x proves that no valid assignment gives the stray i to the flock.
func CheckReason(c api.Claim, i, flock int, x api.Reason) api.Errno {
	if err := checkBoth(c, i, flock); err != api.OK {
		return err
	}
	if !proves(c, i, flock, x) {
		return api.ErrReason
	}
	return api.OK
}

// Decide returns the verdicts about all strays.
func Decide(c api.Claim) ([]api.Verdict, api.Errno) {
	p, err := validPlan(c)
	if err != api.OK {
		return nil, err
	}
	var l []api.Verdict
	for i, paths := range p.takeEach() {
		var v api.Verdict
		for _, o := range c.Strays[i] {
			if p.permits(o, paths) {
				v.Flocks = append(v.Flocks, o.Flock)
			} else {
				v.Reasons = append(v.Reasons, reasonAgainst(c, i, o, paths))
			}
		}
		l = append(l, v)
	}
	return l, api.OK
}

// CheckVerdict reports whether v is what Decide returns for the stray i, by assignments for its flocks and reasons against all others.
func CheckVerdict(c api.Claim, i int, v api.Verdict, witnesses [][]int) (bool, api.Errno) {
	if err := checkStray(c, i); err != api.OK {
		return false, err
	}
	flocks, reasons := v.Flocks, v.Reasons
	if len(flocks) == 0 || len(flocks) != len(witnesses) || len(flocks)+len(reasons) != len(c.Strays[i]) {
		return false, api.OK
	}
	for _, o := range c.Strays[i] {
		switch {
		case len(flocks) > 0 && flocks[0] == o.Flock:
			if !isValid(c, witnesses[0]) || witnesses[0][i] != o.Flock {
				return false, api.OK
			}
			flocks, witnesses = flocks[1:], witnesses[1:]
		case len(reasons) > 0 && proves(c, i, o.Flock, reasons[0]):
			reasons = reasons[1:]
		default:
			return false, api.OK
		}
	}
	return true, api.OK
}

// reasonAgainst returns the reason against giving the stray i by an option that a plan without it does not permit, if these are the paths to room. The price of a flock is what it costs to make room in it, and that of a stray what its cheapest option costs together with the price of its flock. A flock that has room costs nothing, and one that is crowded costs crowd; so the prices of the strays, less those of all missing sheep, are just the cost of a plan with the stray given by this option, which is too high.
func reasonAgainst(c api.Claim, i int, o api.Option, paths []path) api.Reason {
	var x api.Reason
	for _, rest := range paths {
		x.Flocks = append(x.Flocks, rest.cost)
	}
	for h, options := range c.Strays {
		if h == i {
			options = []api.Option{o}
		}
		x.Strays = append(x.Strays, costOf(cheapest(options, paths), paths))
	}
	return x
}

// proves reports whether x is a reason against giving the stray i of a valid claim to the flock.
func proves(c api.Claim, i, flock int, x api.Reason) bool {
	if len(x.Strays) != len(c.Strays) || !areWithin(x.Strays, -api.MaxPrice, api.MaxPrice) {
		return false
	}
	if len(x.Flocks) != len(c.Missing) || !areWithin(x.Flocks, 0, api.MaxPrice) {
		return false
	}
	sum := 0
	for h, options := range c.Strays {
		sum += x.Strays[h]
		for _, o := range options {
			counts := h != i || o.Flock == flock
			if counts && x.Strays[h]-x.Flocks[o.Flock] > o.Wrong {
				return false
			}
		}
	}
	for g, missing := range c.Missing {
		sum -= missing * x.Flocks[g]
	}
	return sum > c.Wrong
}
