package fell

import "earmark/api"

// Path returns the first path, in their order, that leads from a to b until the day that Earliest returns, and whether there is one.
func Path(f api.Fell, a, b, from int) ([]api.Pass, bool, api.Errno) {
	to, ok, err := Earliest(f, a, b, from)
	if !ok {
		return nil, false, err
	}
	starts := latestStarts(f, a, b, from, to)
	var l []api.Pass
	at, day := a, from
	for n := len(starts) - 2; n >= 0; n-- {
		p := nextPass(f, at, day, starts[n])
		l = append(l, p)
		at, _ = across(f.Gates[p.Gate], at)
		day = p.Day
	}
	return l, true, api.OK
}

// CheckPath returns ErrPath unless l is a path from a to b on the days from the day from to the day to.
func CheckPath(f api.Fell, a, b, from, to int, l []api.Pass) api.Errno {
	if err := checkAll(f, []int{a, b}, from, to); err != api.OK {
		return err
	}
	at, day := a, from
	for _, p := range l {
		if p.Day < day || p.Day > to || !isGate(f, p.Gate) || !isOpen(f.Gates[p.Gate], p.Day) {
			return api.ErrPath
		}
		next, way := across(f.Gates[p.Gate], at)
		if way == 0 {
			return api.ErrPath
		}
		at, day = next, p.Day
	}
	if at != b {
		return api.ErrPath
	}
	return api.OK
}

// starts tells for each grazing the last day on which sheep can begin there a path with a certain number of passes to a certain end; a day before 0 if they cannot.
type starts [api.MaxGrazings]int

// latestStarts returns the starts of the paths to b until the day to, for 0, 1, .. passes, up to as many as a path from a on the day from needs. There must be such a path.
func latestStarts(f api.Fell, a, b, from, to int) []starts {
	var s starts
	for x := range s {
		s[x] = -1
	}
	s[b] = to
	l := []starts{s}
	for s[a] < from {
		s = onePassMore(f, s)
		l = append(l, s)
	}
	return l
}

// onePassMore returns the starts of the paths that have one pass more than those of s.
func onePassMore(f api.Fell, s starts) starts {
	var more starts
	for x := range more {
		more[x] = -1
		for _, g := range f.Gates {
			if y, way := across(g, x); way != 0 {
				more[x] = max(more[x], closing(g, s[y]))
			}
		}
	}
	return more
}

// nextPass returns the first pass, from a day on, from the grazing at to one where sheep are in time for s. There must be one.
func nextPass(f api.Fell, at, day int, s starts) api.Pass {
	next := api.Pass{Day: never}
	for i, g := range f.Gates {
		y, way := across(g, at)
		if way == 0 {
			continue
		}
		if d := opening(g, day); d <= s[y] && d < next.Day {
			next = api.Pass{Day: d, Gate: i}
		}
	}
	return next
}
