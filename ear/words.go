package ear

import (
	"strconv"
	"strings"

	"earmark/api"
)

// Words returns the description of e in words.
func Words(e api.Ear) (string, api.Errno) {
	l, err := Features(e)
	if err != api.OK {
		return "", err
	}
	if len(l) == 0 {
		return wholeWord, api.OK
	}
	var phrases []string
	for _, f := range l {
		phrases = append(phrases, phrase(f))
	}
	return strings.Join(phrases, ", "), api.OK
}

// PrintMark returns the description of m in words.
func PrintMark(m api.Mark) (string, api.Errno) {
	near, err := Words(m.Near)
	if err != api.OK {
		return "", err
	}
	far, err := Words(m.Far)
	if err != api.OK {
		return "", err
	}
	return "near: " + near + "; far: " + far, api.OK
}

const (
	wholeWord = "whole"
	holeWord  = "hole"
)

// tipWords returns the words of the tips other than Whole, in the order of their values.
func tipWords() []string { return []string{"slit", "forked", "hollowed", "cropped"} }

// edgeWords returns the words of the edges, in their order.
func edgeWords() []string { return []string{"upper", "lower"} }

// cutWords returns the words of a slot's values other than Uncut, in their order.
func cutWords() []string { return []string{"notch", "bit", "key"} }

// phrase returns the phrase of a well-formed feature.
func phrase(f api.Feature) string {
	switch f.Kind {
	case api.TipF:
		return tipWords()[f.Value-api.Slit]
	case api.SlotF:
		return edgeWords()[f.Edge] + " " + cutWords()[f.Value-api.Notch] + " " + strconv.Itoa(f.At)
	}
	return holeWord + " " + strconv.Itoa(f.At)
}
