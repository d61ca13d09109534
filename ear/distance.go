package ear

import (
	"slices"

	"earmark/api"
)

// Distance returns in how many places two ears differ.
func Distance(a, b api.Ear) (int, api.Errno) {
	if err := CheckMark(api.Mark{Near: a, Far: b}); err != api.OK {
		return 0, err
	}
	n := 0
	other := shapeOf(b)
	for place, value := range shapeOf(a) {
		if value != other[place] {
			n++
		}
	}
	return n, api.OK
}

// MarkDistance returns in how many places two marks differ.
func MarkDistance(a, b api.Mark) (int, api.Errno) {
	near, err := Distance(a.Near, b.Near)
	if err != api.OK {
		return 0, err
	}
	far, err := Distance(a.Far, b.Far)
	if err != api.OK {
		return 0, err
	}
	return near + far, api.OK
}

// Neighbours returns the valid ears that differ from e in exactly one place, in their order.
func Neighbours(e api.Ear) ([]api.Ear, api.Errno) {
	if err := Check(e); err != api.OK {
		return nil, err
	}
	var l []api.Ear
	for place, present := range shapeOf(e) {
		for value := range valueCount(place) {
			other := shapeOf(e)
			other[place] = value
			if value != present && Check(other.ear()) == api.OK {
				l = append(l, other.ear())
			}
		}
	}
	slices.SortFunc(l, Compare)
	return l, api.OK
}
