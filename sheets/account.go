package sheets

import (
	"slices"

	"earmark/api"
)

// account identifies all sheets that one clerk writes at a gathering.
type account struct {
	gathering, clerk int
}

// index tells which sheets of a roll there are, and how many parts each account has of which a sheet is there.
type index struct {
	has   map[api.Sheetkey]bool
	parts map[account]int
}

// indexOf returns the index of r, or the error of CheckRoll.
func indexOf(r api.Roll) (index, api.Errno) {
	if err := CheckRoll(r); err != api.OK {
		return index{}, err
	}
	x := index{has: map[api.Sheetkey]bool{}, parts: map[account]int{}}
	for _, s := range r.Sheets {
		a := account{s.Gathering, s.Clerk}
		x.has[keyOf(s)] = true
		x.parts[a] = max(x.parts[a], s.Parts)
	}
	return x, api.OK
}

// missing returns the keys of the parts of an account that are not there.
func (x index) missing(a account) []api.Sheetkey {
	var l []api.Sheetkey
	for part := range x.parts[a] {
		key := api.Sheetkey{Gathering: a.gathering, Clerk: a.clerk, Part: part}
		if !x.has[key] {
			l = append(l, key)
		}
	}
	return l
}

// Missing returns the keys of the sheets that are missing in accounts of which a sheet has come.
func Missing(r api.Roll) ([]api.Sheetkey, api.Errno) {
	x, err := indexOf(r)
	if err != api.OK {
		return nil, err
	}
	var l []api.Sheetkey
	for a := range x.parts {
		l = append(l, x.missing(a)...)
	}
	slices.SortFunc(l, compareKeys)
	return l, api.OK
}

// Complete reports whether all sheets of an account have come.
func Complete(r api.Roll, gathering, clerk int) (bool, api.Errno) {
	x, err := indexOf(r)
	if err != api.OK {
		return false, err
	}
	if !isId(gathering) || !isId(clerk) {
		return false, api.ErrArg
	}
	a := account{gathering, clerk}
	return x.parts[a] > 0 && len(x.missing(a)) == 0, api.OK
}

// Between returns the sheets of r of the days from the day from to the day to.
func Between(r api.Roll, from, to int) (api.Roll, api.Errno) {
	if err := CheckRoll(r); err != api.OK {
		return api.Roll{}, err
	}
	if from < 0 || from > to || to > api.MaxDay {
		return api.Roll{}, api.ErrArg
	}
	var some api.Roll
	for _, s := range r.Sheets {
		if within(s.Day, from, to) {
			some.Sheets = append(some.Sheets, copyOf(s))
		}
	}
	return some, api.OK
}

// Sightings returns all heads of r, in order.
func Sightings(r api.Roll) ([]api.Sighting, api.Errno) {
	if err := CheckRoll(r); err != api.OK {
		return nil, err
	}
	var l []api.Sighting
	for _, s := range r.Sheets {
		for i, h := range s.Heads {
			l = append(l, api.Sighting{Key: keyOf(s), Day: s.Day, Grazing: s.Grazing, Index: i, Head: h})
		}
	}
	return l, api.OK
}
