package stray

import "earmark/api"

// Wrong returns how many readings are wrong with an assignment: a flock for each stray.
func Wrong(c api.Claim, a []int) (int, api.Errno) {
	if err := Check(c); err != api.OK {
		return 0, err
	}
	n, ok := readings(c, a)
	if !ok {
		return 0, api.ErrArg
	}
	return n, api.OK
}

// Valid reports whether a is an assignment of c with at most its number of wrong readings.
func Valid(c api.Claim, a []int) (bool, api.Errno) {
	if err := Check(c); err != api.OK {
		return false, err
	}
	return isValid(c, a), api.OK
}

// Least returns the least number of wrong readings of an assignment, and whether there is an assignment at all.
func Least(c api.Claim) (int, bool, api.Errno) {
	if err := Check(c); err != api.OK {
		return 0, false, err
	}
	p := planOf(c)
	if p.isCrowded() {
		return 0, false, api.OK
	}
	return p.cost, true, api.OK
}

// Assign returns the least valid assignment, and whether there is one.
func Assign(c api.Claim) ([]int, bool, api.Errno) {
	if err := Check(c); err != api.OK {
		return nil, false, err
	}
	p := planOf(c)
	if !p.isValid() {
		return nil, false, api.OK
	}
	return p.settle(), true, api.OK
}

// Possible reports whether a valid assignment gives the stray i to the flock.
func Possible(c api.Claim, i, flock int) (bool, api.Errno) {
	if err := checkBoth(c, i, flock); err != api.OK {
		return false, err
	}
	p, paths := planWithout(c, i)
	return p.permits(wish(c, i, flock), paths), api.OK
}

// Witness returns the least valid assignment that gives the stray i to the flock, and whether there is one.
func Witness(c api.Claim, i, flock int) ([]int, bool, api.Errno) {
	if err := checkBoth(c, i, flock); err != api.OK {
		return nil, false, err
	}
	p, paths := planWithout(c, i)
	o := wish(c, i, flock)
	if !p.permits(o, paths) {
		return nil, false, api.OK
	}
	p.put(i, o, paths)
	p.fix(i)
	return p.settle(), true, api.OK
}

// readings returns how many readings are wrong with a, and whether it is an assignment of a valid claim.
func readings(c api.Claim, a []int) (int, bool) {
	if len(a) != len(c.Strays) {
		return 0, false
	}
	wrong := 0
	var given [api.MaxFlocks]int
	for h, flock := range a {
		o, ok := optionOf(c.Strays[h], flock)
		if !ok || given[flock] == c.Missing[flock] {
			return 0, false
		}
		given[flock]++
		wrong += o.Wrong
	}
	return wrong, true
}

// isValid reports whether a is a valid assignment of a valid claim.
func isValid(c api.Claim, a []int) bool {
	n, ok := readings(c, a)
	return ok && n <= c.Wrong
}

// wish returns the option of a stray with a flock; if it has none, one that costs too much for any valid assignment.
func wish(c api.Claim, i, flock int) api.Option {
	if o, ok := optionOf(c.Strays[i], flock); ok {
		return o
	}
	return api.Option{Flock: flock, Wrong: crowd}
}
