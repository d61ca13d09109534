package weather_test

import (
	"slices"
	"strings"
	"testing"

	"earmark/api"
	"earmark/weather"
)

// P2.7: each undoes the other.
func TestPrintAndParse(t *testing.T) {
	for i, s := range steps {
		if got, err := weather.Print(s); got != notations[i] || err != api.OK {
			t.Error(s, got, err)
		}
		if got, err := weather.Parse(notations[i]); got != s || err != api.OK {
			t.Error(notations[i], got, err)
		}
	}
}

// P2.7
func TestPrintWithoutWellFormedSteps(t *testing.T) {
	for _, s := range badSteps() {
		if got, err := weather.Print(s); got != "" || err != api.ErrStep {
			t.Error(s, got, err)
		}
	}
}

func checkNotParsed(t *testing.T, s string) {
	t.Helper()
	if slices.Contains(notations, s) {
		return
	}
	if got, err := weather.Parse(s); got != (api.Step{}) || err != api.ErrParse {
		t.Errorf("%q %v %v", s, got, err)
	}
}

// P2.7
func TestParseOfOtherStrings(t *testing.T) {
	for _, s := range []string{
		"", " ", "tear", "tear upper", "tear 1", "tear upper lower 1", "tear upper 1 1", "tear 1 upper", "tear  upper 1", "tear upper  1", "tear\tupper 1", "tear upper 1\n", "tearupper 1", "tear upper1",
		"tear lower 3", "tear upper -1", "tear upper +1", "tear upper 01", "tear upper 1.", "tear middle 1", "run upper 2", "run lower 3", "close 3", "close upper 0", "shut upper 4", "wear lower 4", "shut 0", "wear",
		"frost 0", "frost upper", "frost upper 0", "heal 0", "heal upper 0", "Frost", "FROST", "frost;", "frost frost", "thaw", "wear upper ¹", "tear upper 1\x00", strings.Repeat("frost ", 100000),
	} {
		checkNotParsed(t, s)
	}
}

// P2.7: of all strings that differ from a notation in one byte, only notations are parsed.
func TestParseOfChangedNotations(t *testing.T) {
	for _, s := range notations {
		for i := range len(s) + 1 {
			for b := range 256 {
				checkNotParsed(t, s[:i]+string([]byte{byte(b)})+s[i:])
				if i < len(s) {
					checkNotParsed(t, s[:i]+string([]byte{byte(b)})+s[i+1:])
				}
			}
			if i < len(s) {
				checkNotParsed(t, s[:i]+s[i+1:])
			}
		}
	}
}
