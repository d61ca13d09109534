package ear

import "earmark/api"

// The places of an ear, in their order.
const (
	tipPlace   = 0
	firstUpper = tipPlace + 1
	firstLower = firstUpper + api.Slots
	firstHole  = firstLower + api.Slots
	placeCount = firstHole + api.Spots
)

// shape holds the value of each place of an ear. A hole that is punched has the value 1.
type shape [placeCount]int

func shapeOf(e api.Ear) shape {
	s := shape{tipPlace: e.Tip}
	copy(s[firstUpper:], e.Upper[:])
	copy(s[firstLower:], e.Lower[:])
	for i, punched := range e.Holes {
		if punched {
			s[firstHole+i] = 1
		}
	}
	return s
}

func (s shape) ear() api.Ear {
	e := api.Ear{Tip: s[tipPlace]}
	copy(e.Upper[:], s[firstUpper:firstLower])
	copy(e.Lower[:], s[firstLower:firstHole])
	for i := range e.Holes {
		e.Holes[i] = s[firstHole+i] != 0
	}
	return e
}

// valueCount returns how many values a place can have.
func valueCount(place int) int {
	switch {
	case place == tipPlace:
		return api.Cropped + 1
	case place < firstHole:
		return api.Key + 1
	}
	return 2
}
