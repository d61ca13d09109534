package fell

import "earmark/api"

// never comes after all days.
const never = api.MaxDay + 1

// Reach returns the grazings in which a sheep that is in a at the beginning of the day from can be at the end of the day to.
func Reach(f api.Fell, a, from, to int) ([]int, api.Errno) {
	if err := checkAll(f, []int{a}, from, to); err != api.OK {
		return nil, err
	}
	s := only(a)
	for day := leaving(f, s, from); day <= to; day = leaving(f, s, day) {
		s = endOf(f, s, day)
	}
	return s.list(), api.OK
}

// Earliest returns the first day, from the day from on, at the end of which a sheep that is in a at the beginning of the day from can be in b, and whether there is one.
func Earliest(f api.Fell, a, b, from int) (int, bool, api.Errno) {
	if err := checkAll(f, []int{a, b}, from); err != api.OK {
		return 0, false, err
	}
	s, day := only(a), from
	for !s.has(b) {
		day = leaving(f, s, day)
		if day > api.MaxDay {
			return 0, false, api.OK
		}
		s = endOf(f, s, day)
	}
	return day, true, api.OK
}

// Meeting returns the first day, from the day from to the day to, at the end of which sheep that are in a and b at the beginning of the day from can be in the same grazing, the least such grazing, and whether there is one.
func Meeting(f api.Fell, a, b, from, to int) (int, int, bool, api.Errno) {
	if err := checkAll(f, []int{a, b}, from, to); err != api.OK {
		return 0, 0, false, err
	}
	s, t := only(a), only(b)
	for day := from; day <= to; day = first(leaving(f, s, day), leaving(f, t, day)) {
		s, t = endOf(f, s, day), endOf(f, t, day)
		if both := s & t; both != 0 {
			return day, both.least(), true, api.OK
		}
	}
	return 0, 0, false, api.OK
}

// leaving returns the first day, from the given one on, on which sheep can leave s; never, if there is none.
func leaving(f api.Fell, s set, day int) int {
	var days []int
	for _, g := range f.Gates {
		if s.leads(g) {
			days = append(days, opening(g, day))
		}
	}
	return first(days...)
}

// first returns the first of the days; never, if there are none.
func first(days ...int) int {
	least := never
	for _, day := range days {
		least = min(least, day)
	}
	return least
}

// opening returns the first day, from the given one on, on which g is open; a day after MaxDay if there is none.
func opening(g api.Gate, day int) int {
	for n := range api.YearDays {
		if isOpen(g, day+n) {
			return day + n
		}
	}
	return never
}

// closing returns the last day, up to the given one, on which g is open; a day before 0 if there is none.
func closing(g api.Gate, day int) int {
	for n := range min(day+1, api.YearDays) {
		if isOpen(g, day-n) {
			return day - n
		}
	}
	return -1
}
