package knife

import (
	"strconv"
	"strings"

	"earmark/api"
	"earmark/weather"
)

const (
	nearWord    = "near "
	farWord     = "far "
	weatherWord = "weather "
)

var (
	tipWords  = [...]string{api.Slit: "slit", api.Forked: "forked", api.Hollowed: "hollowed", api.Cropped: "cropped"}
	slotWords = [...]string{api.Notch: "notch", api.Bit: "bit", api.Key: "key"}
	edgeWords = [...]string{api.UpperEdge: "upper", api.LowerEdge: "lower"}
)

// Print returns the notation of a change.
func Print(c api.Change) (string, api.Errno) {
	if !wellFormed(c) {
		return "", api.ErrChange
	}
	side := nearWord
	if c.Far {
		side = farWord
	}
	if c.Knife {
		return side + notation(c.Cut), api.OK
	}
	text, _ := weather.Print(c.Step)
	return side + weatherWord + text, api.OK
}

// Parse returns the change with the notation s.
func Parse(s string) (api.Change, api.Errno) {
	text, far := strings.CutPrefix(s, farWord)
	if !far {
		rest, near := strings.CutPrefix(s, nearWord)
		if !near {
			return api.Change{}, api.ErrParse
		}
		text = rest
	}
	if rest, ok := strings.CutPrefix(text, weatherWord); ok {
		step, err := weather.Parse(rest)
		if err != api.OK {
			return api.Change{}, err
		}
		return api.Change{Far: far, Step: step}, api.OK
	}
	for kind, r := range rows() {
		for c := range r.cuts(kind) {
			if r.notation(c) == text {
				return api.Change{Far: far, Knife: true, Cut: c}, api.OK
			}
		}
	}
	return api.Change{}, api.ErrParse
}

// notation returns the notation of a well-formed cut.
func notation(c api.Cut) string { return rows()[c.Kind].notation(c) }

func tipNotation(c api.Cut) string { return "cut tip " + tipWords[c.To] }

func edgeNotation(c api.Cut) string {
	return "cut " + edgeWords[c.Edge] + " " + strconv.Itoa(c.At) + " " + slotWords[c.To]
}

func punchNotation(c api.Cut) string { return "punch " + strconv.Itoa(c.At) }

func openNotation(c api.Cut) string { return "open " + edgeWords[c.Edge] + " " + strconv.Itoa(c.At) }
