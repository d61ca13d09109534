package ear_test

import (
	"strings"
	"testing"

	"earmark/api"
	"earmark/ear"
)

var placeLetters = [12]string{"wsfhc", ".nbk", ".nbk", ".nbk", ".nbk", ".nbk", ".nbk", ".nbk", ".nbk", ".o", ".o", ".o"}

// P1.5 and P1.8: the short notation of all ears, and back.
func TestShortOfAllEars(t *testing.T) {
	for _, e := range ears() {
		var want strings.Builder
		for place, value := range valuesOf(e) {
			want.WriteByte(placeLetters[place][value])
		}
		s, err := ear.Short(e)
		if s != want.String() || err != api.OK {
			t.Fatal(e, s, err)
		}
		if got, err := ear.ParseShort(s); got != e || err != api.OK {
			t.Fatal(s, got, err)
		}
	}
}

// P1.5 and P1.8: any other byte at any place is an error or another ear.
func TestParseShortWithOneOtherByte(t *testing.T) {
	for _, e := range some(797) {
		s, _ := ear.Short(e)
		for place := range len(s) {
			for b := range 256 {
				x := s[:place] + string([]byte{byte(b)}) + s[place+1:]
				v := valuesOf(e)
				v[place] = strings.IndexByte(placeLetters[place], byte(b))
				wantEar, want := earOf(v), api.OK
				if v[place] < 0 {
					wantEar, want = api.Ear{}, api.ErrParse
				} else if !valid(v) {
					wantEar, want = api.Ear{}, api.ErrEar
				}
				if got, err := ear.ParseShort(x); got != wantEar || err != want {
					t.Fatal(x, got, err)
				}
			}
		}
	}
}

// P1.5: examples, lengths, and which error comes first.
func TestParseShort(t *testing.T) {
	for s, want := range map[string]api.Errno{
		"c.n....k...o":     api.OK,
		"":                 api.ErrParse,
		"w":                api.ErrParse,
		"c.n....k...":      api.ErrParse,
		"c.n....k...o.":    api.ErrParse,
		"c.n....k...o ":    api.ErrParse,
		" c.n....k...o":    api.ErrParse,
		"C.n....k...o":     api.ErrParse,
		"c.n....k..\u00e9": api.ErrParse,
		"cn......n..n":     api.ErrParse,
		"cnn....k...x":     api.ErrParse,
		"cnn....k...o":     api.ErrEar,
		"h...k.......":     api.ErrEar,
		"c.......b...":     api.ErrEar,
		"wnn.........":     api.ErrEar,
		"w....k.kn...":     api.ErrEar,
	} {
		e, err := ear.ParseShort(s)
		if err != want || err != api.OK && e != (api.Ear{}) || err == api.OK && e != sample() {
			t.Errorf("%q: %v %v", s, e, err)
		}
	}
	if s, err := ear.Short(sample()); s != "c.n....k...o" || err != api.OK {
		t.Error(s, err)
	}
	if s, err := ear.Short(api.Ear{}); s != "w..........." || err != api.OK {
		t.Error(s, err)
	}
}
