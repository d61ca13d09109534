package knife_test

import (
	"slices"
	"strings"
	"testing"

	"earmark/api"
	"earmark/knife"
	"earmark/weather"
)

// texts returns the notations of all well-formed changes, in their order.
func texts() []string {
	var l []string
	for _, c := range changes() {
		side := "near "
		if c.Far {
			side = "far "
		}
		if c.Knife {
			l = append(l, side+notations[slices.Index(cuts, c.Cut)])
			continue
		}
		step, _ := weather.Print(c.Step)
		l = append(l, side+"weather "+step)
	}
	return l
}

// P3.7: each undoes the other.
func TestPrintAndParse(t *testing.T) {
	l := texts()
	for i, c := range changes() {
		if got, err := knife.Print(c); got != l[i] || err != api.OK {
			t.Error(c, got, err)
		}
		if got, err := knife.Parse(l[i]); got != c || err != api.OK {
			t.Error(l[i], got, err)
		}
	}
}

// P3.7, examples
func TestPrintExamples(t *testing.T) {
	for _, x := range []struct {
		c    api.Change
		want string
	}{
		{api.Change{Far: true, Knife: true, Cut: api.Cut{Kind: api.EdgeC, Edge: api.LowerEdge, At: 2, To: api.Key}}, "far cut lower 2 key"},
		{api.Change{Knife: true, Cut: api.Cut{Kind: api.TipC, To: api.Hollowed}}, "near cut tip hollowed"},
		{api.Change{Knife: true, Cut: api.Cut{Kind: api.PunchC, At: 1}}, "near punch 1"},
		{api.Change{Far: true, Knife: true, Cut: api.Cut{Kind: api.OpenC, At: 2}}, "far open upper 2"},
		{api.Change{Step: api.Step{Kind: api.FrostW}}, "near weather frost"},
		{api.Change{Far: true, Step: api.Step{Kind: api.TearW, Edge: api.LowerEdge, At: 1}}, "far weather tear lower 1"},
	} {
		if got, err := knife.Print(x.c); got != x.want || err != api.OK {
			t.Error(x, got, err)
		}
	}
}

// P3.7
func TestPrintWithoutWellFormedChanges(t *testing.T) {
	for _, c := range badChanges() {
		if got, err := knife.Print(c); got != "" || err != api.ErrChange {
			t.Error(c, got, err)
		}
	}
	for _, c := range badCuts() {
		if got, err := knife.Print(api.Change{Knife: true, Cut: c}); got != "" || err != api.ErrChange {
			t.Error(c, got, err)
		}
	}
}

// P3.7
func TestParseOfOtherStrings(t *testing.T) {
	for _, s := range []string{
		"", " ", "near", "far", "near ", "far ", "near weather", "near weather ", "near cut", "far cut tip", "frost", "weather frost", "punch 1", "cut tip slit",
		"near frost", "far tear upper 1", "near weather punch 1", "far weather cut tip slit", "near near punch 1", "near far punch 1", "far near punch 1", "near weather weather frost",
		"near cut tip whole", "near cut tip notch", "near cut tip 1", "near cut upper 4 notch", "near cut upper 0 slit", "near cut upper 0 uncut", "near cut upper notch", "near cut upper notch 0", "near cut 0 upper notch", "near cut middle 1 bit",
		"near punch 3", "near punch upper 1", "near punch", "near punch 01", "near punch -1", "near punch +1", "near open upper 3", "near open 1", "near open tip", "near cut upper -1 bit", "near cut upper 00 bit",
		"Near punch 1", "NEAR PUNCH 1", "near punch 1 ", " near punch 1", "near  punch 1", "near punch  1", "near\tpunch 1", "near punch 1\n", "nearpunch 1", "near punch1", "near punch 1.", "near punch 1, punch 2", "near punch ¹", "near punch 1\x00",
		"near weather tear lower 3", "near weather frost 0", "far weather thaw", "middle punch 1", "both punch 1", strings.Repeat("near ", 100000), "near " + strings.Repeat("1", 100000),
	} {
		checkNotParsed(t, s)
	}
}

func checkNotParsed(t *testing.T, s string) {
	t.Helper()
	if got, err := knife.Parse(s); got != (api.Change{}) || err != api.ErrParse {
		t.Errorf("%q %v %v", s, got, err)
	}
}

// P3.7: of all strings that differ from a notation in one byte, only notations are parsed.
func TestParseOfChangedNotations(t *testing.T) {
	known := map[string]bool{}
	for _, s := range texts() {
		known[s] = true
	}
	for i, s := range texts() {
		for at := range len(s) + 1 {
			for b := i % 3; b < 256; b += 3 {
				c := string([]byte{byte(b)})
				others := []string{s[:at] + c + s[at:]}
				if at < len(s) {
					others = append(others, s[:at]+c+s[at+1:], s[:at]+s[at+1:])
				}
				for _, other := range others {
					if !known[other] {
						checkNotParsed(t, other)
					}
				}
			}
		}
	}
}
