package fell

import "earmark/api"

// YearDay returns the day of the year of a day.
func YearDay(day int) (int, api.Errno) {
	if day < 0 || day > api.MaxDay {
		return 0, api.ErrArg
	}
	return day % api.YearDays, api.OK
}

// Open reports whether a gate is open on a day.
func Open(f api.Fell, gate, day int) (bool, api.Errno) {
	if err := checkAll(f, nil, day); err != api.OK {
		return false, err
	}
	if !isGate(f, gate) {
		return false, api.ErrArg
	}
	return isOpen(f.Gates[gate], day), api.OK
}

// OpenGates returns the indices of the gates that are open on a day.
func OpenGates(f api.Fell, day int) ([]int, api.Errno) {
	if err := checkAll(f, nil, day); err != api.OK {
		return nil, err
	}
	var l []int
	for i, g := range f.Gates {
		if isOpen(g, day) {
			l = append(l, i)
		}
	}
	return l, api.OK
}

// Parts returns the sets of grazings that are connected on a day.
func Parts(f api.Fell, day int) ([][]int, api.Errno) {
	if err := checkAll(f, nil, day); err != api.OK {
		return nil, err
	}
	return split(f, openOn(day)), api.OK
}

// Together reports whether two grazings are connected on a day.
func Together(f api.Fell, a, b, day int) (bool, api.Errno) {
	if err := checkAll(f, []int{a, b}, day); err != api.OK {
		return false, err
	}
	return endOf(f, only(a), day).has(b), api.OK
}

func isOpen(g api.Gate, day int) bool {
	y := day % api.YearDays
	if g.From > g.To {
		return y >= g.From || y < g.To
	}
	return g.From <= y && y < g.To
}

func openOn(day int) func(api.Gate) bool {
	return func(g api.Gate) bool { return isOpen(g, day) }
}

// endOf returns where sheep can be at the end of a day that are in s at its beginning.
func endOf(f api.Fell, s set, day int) set { return spread(f, s, openOn(day)) }
