package ear

import (
	"strings"

	"earmark/api"
)

// Short returns the short notation of e.
func Short(e api.Ear) (string, api.Errno) {
	if err := Check(e); err != api.OK {
		return "", err
	}
	var b strings.Builder
	for place, value := range shapeOf(e) {
		b.WriteByte(letters(place)[value])
	}
	return b.String(), api.OK
}

// ParseShort returns the ear with the short notation s.
func ParseShort(s string) (api.Ear, api.Errno) {
	if len(s) != placeCount {
		return api.Ear{}, api.ErrParse
	}
	var found shape
	for place := range found {
		value := strings.IndexByte(letters(place), s[place])
		if value < 0 {
			return api.Ear{}, api.ErrParse
		}
		found[place] = value
	}
	e := found.ear()
	if err := Check(e); err != api.OK {
		return api.Ear{}, err
	}
	return e, api.OK
}

// letters returns the letters of the values of a place, in the order of the values.
func letters(place int) string {
	switch {
	case place == tipPlace:
		return "wsfhc"
	case place < firstHole:
		return ".nbk"
	}
	return ".o"
}
