package ear

import "earmark/api"

// Features returns the features of e, in their order.
func Features(e api.Ear) ([]api.Feature, api.Errno) {
	if err := Check(e); err != api.OK {
		return nil, err
	}
	var l []api.Feature
	for place, value := range shapeOf(e) {
		if value != 0 {
			l = append(l, featureAt(place, value))
		}
	}
	return l, api.OK
}

// Build returns the ear that has exactly the features of l, in whatever order they are.
func Build(l []api.Feature) (api.Ear, api.Errno) {
	var s shape
	for _, f := range l {
		place, value, ok := locate(f)
		if !ok || s[place] != 0 {
			return api.Ear{}, api.ErrFeature
		}
		s[place] = value
	}
	e := s.ear()
	if err := Check(e); err != api.OK {
		return api.Ear{}, err
	}
	return e, api.OK
}

// featureAt returns the feature of an ear that has this value, other than 0, at a place.
func featureAt(place, value int) api.Feature {
	switch {
	case place == tipPlace:
		return api.Feature{Kind: api.TipF, Value: value}
	case place < firstLower:
		return api.Feature{Kind: api.SlotF, Edge: api.UpperEdge, At: place - firstUpper, Value: value}
	case place < firstHole:
		return api.Feature{Kind: api.SlotF, Edge: api.LowerEdge, At: place - firstLower, Value: value}
	}
	return api.Feature{Kind: api.HoleF, At: place - firstHole}
}

// locate returns the place and the value of which f is the feature, and whether f is well-formed.
func locate(f api.Feature) (int, int, bool) {
	for place := range placeCount {
		for value := 1; value < valueCount(place); value++ {
			if featureAt(place, value) == f {
				return place, value, true
			}
		}
	}
	return 0, 0, false
}
