package weather

import (
	"strconv"
	"strings"

	"earmark/api"
)

// Print returns the notation of s.
func Print(s api.Step) (string, api.Errno) {
	if err := Check(s); err != api.OK {
		return "", err
	}
	return notation(s), api.OK
}

// Parse returns the step with the notation s.
func Parse(s string) (api.Step, api.Errno) {
	found, ok := firstOf(allSteps, func(x api.Step) bool { return notation(x) == s })
	if !ok {
		return api.Step{}, api.ErrParse
	}
	return found, api.OK
}

// notation returns the notation of a well-formed step.
func notation(s api.Step) string {
	k := kinds[s.Kind]
	words := []string{k.word}
	if k.edges > 1 {
		words = append(words, edgeWord(s.Edge))
	}
	if k.ats > 1 {
		words = append(words, strconv.Itoa(s.At))
	}
	return strings.Join(words, " ")
}

func edgeWord(edge int) string {
	if edge == api.UpperEdge {
		return "upper"
	}
	return "lower"
}
