package sheets

import (
	"slices"

	"earmark/api"
	"earmark/ear"
)

// Variants returns the marks that differ from m in exactly one place, in their order.
func Variants(m api.Mark) ([]api.Mark, api.Errno) {
	if err := ear.CheckMark(m); err != api.OK {
		return nil, err
	}
	var l []api.Mark
	near, _ := ear.Neighbours(m.Near)
	for _, e := range near {
		l = append(l, api.Mark{Near: e, Far: m.Far})
	}
	far, _ := ear.Neighbours(m.Far)
	for _, e := range far {
		l = append(l, api.Mark{Near: m.Near, Far: e})
	}
	slices.SortFunc(l, ear.CompareMarks)
	return l, api.OK
}

// Fewest returns how many readings of s are wrong if the heads truly have these marks, and whether each wrong one differs in one place.
func Fewest(s api.Sheet, truths []api.Mark) (int, bool, api.Errno) {
	if err := CheckSheet(s); err != api.OK {
		return 0, false, err
	}
	if len(truths) != len(s.Heads) {
		return 0, false, api.ErrArg
	}
	wrong, small := 0, true
	for i, m := range truths {
		n, err := ear.MarkDistance(m, s.Heads[i].Seen)
		if err != api.OK {
			return 0, false, err
		}
		if n > 0 {
			wrong++
		}
		small = small && n <= 1
	}
	return wrong, small, api.OK
}

// Explains reports whether at most wrong readings of s are wrong if the heads truly have these marks, each in one place.
func Explains(s api.Sheet, truths []api.Mark, wrong int) (bool, api.Errno) {
	n, small, err := Fewest(s, truths)
	if err != api.OK {
		return false, err
	}
	if !within(wrong, 0, api.MaxHeads) {
		return false, api.ErrArg
	}
	return small && n <= wrong, api.OK
}
