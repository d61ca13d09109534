package sheets

import (
	"maps"
	"slices"

	"earmark/api"
)

// piles holds, for each key, the different sheets with this key by their texts.
type piles map[api.Sheetkey]map[string]api.Sheet

// Merge returns the roll of the sheets of l, in whatever order and however often they came, and the conflicts.
func Merge(l []api.Sheet) (api.Roll, []api.Conflict, api.Errno) {
	p := piles{}
	for _, s := range l {
		text, err := Print(s)
		if err != api.OK {
			return api.Roll{}, nil, err
		}
		p.add(s, text)
	}
	if len(p) > api.MaxSheets {
		return api.Roll{}, nil, api.ErrLimit
	}
	var r api.Roll
	var conflicts []api.Conflict
	for _, key := range p.keys() {
		pile := p[key]
		texts := slices.Sorted(maps.Keys(pile))
		first := pile[texts[0]]
		r.Sheets = append(r.Sheets, copyOf(first))
		for _, text := range texts[1:] {
			conflicts = append(conflicts, api.Conflict{Key: key, A: copyOf(first), B: copyOf(pile[text])})
		}
	}
	return r, conflicts, api.OK
}

// Join returns the roll of the sheets of both rolls, and the conflicts.
func Join(a, b api.Roll) (api.Roll, []api.Conflict, api.Errno) {
	for _, r := range []api.Roll{a, b} {
		if err := CheckRoll(r); err != api.OK {
			return api.Roll{}, nil, err
		}
	}
	return Merge(slices.Concat(a.Sheets, b.Sheets))
}

// add puts a sheet on the pile of its key, unless the same one lies there.
func (p piles) add(s api.Sheet, text string) {
	key := keyOf(s)
	if p[key] == nil {
		p[key] = map[string]api.Sheet{}
	}
	p[key][text] = s
}

// keys returns the keys of all piles, in increasing order.
func (p piles) keys() []api.Sheetkey {
	var l []api.Sheetkey
	for key := range p {
		l = append(l, key)
	}
	slices.SortFunc(l, compareKeys)
	return l
}
