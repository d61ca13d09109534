package ear_test

import (
	"slices"
	"strconv"
	"strings"
	"testing"

	"earmark/api"
	"earmark/ear"
)

// wordsOf returns the phrases of an ear by the chapter's table.
func wordsOf(e api.Ear) []string {
	var l []string
	for _, f := range featuresOf(e) {
		at := " " + strconv.Itoa(f.At)
		switch f.Kind {
		case api.TipF:
			l = append(l, []string{"", "slit", "forked", "hollowed", "cropped"}[f.Value])
		case api.SlotF:
			l = append(l, []string{"upper", "lower"}[f.Edge]+[]string{"", " notch", " bit", " key"}[f.Value]+at)
		case api.HoleF:
			l = append(l, "hole"+at)
		}
	}
	return l
}

// crowded returns s without the blanks that are not needed, and airy returns it with more of them around each token.
func crowded(s string) string {
	return strings.NewReplacer(", ", ",", "; ", ";", ": ", ":", " 0", "0", " 1", "1", " 2", "2", " 3", "3").Replace(s)
}

func airy(s string) string {
	return "  " + strings.NewReplacer(" ", "   ", ",", "  ,", ";", " ; ", ":", "  :").Replace(s) + " "
}

// P1.5 and P1.8: the words of all ears, and back, in whatever order the parts are and with whatever blanks.
func TestWordsOfAllEars(t *testing.T) {
	for _, e := range ears() {
		parts := wordsOf(e)
		want := strings.Join(parts, ", ")
		if len(parts) == 0 {
			want = "whole"
		}
		s, err := ear.Words(e)
		if s != want || err != api.OK {
			t.Fatal(e, s, err)
		}
		slices.Reverse(parts)
		back := s
		if len(parts) > 0 {
			back = strings.Join(append(parts[1:], parts[0]), ", ")
		}
		for _, x := range []string{s, back, crowded(s), airy(back)} {
			if got, at, err := ear.ParseWords(x); got != e || at != 0 || err != api.OK {
				t.Fatalf("%q: %v %v %v", x, got, at, err)
			}
		}
	}
}

// P1.5 and P1.8
func TestMarksInWords(t *testing.T) {
	l := some(997)
	for i, near := range l {
		for _, far := range []api.Ear{near, l[(i*7+3)%len(l)], {}, lastEar()} {
			m := api.Mark{Near: near, Far: far}
			x, _ := ear.Words(near)
			y, _ := ear.Words(far)
			s, err := ear.PrintMark(m)
			if s != "near: "+x+"; far: "+y || err != api.OK {
				t.Fatal(m, s, err)
			}
			for _, x := range []string{s, crowded(s), airy(s)} {
				if got, at, err := ear.ParseMark(x); got != m || at != 0 || err != api.OK {
					t.Fatalf("%q: %v %v %v", x, got, at, err)
				}
			}
		}
	}
	if s, err := ear.PrintMark(api.Mark{}); s != "near: whole; far: whole" || err != api.OK {
		t.Error(s, err)
	}
}

// P1.5, examples
func TestWordsExamples(t *testing.T) {
	if s, err := ear.Words(sample()); s != "cropped, upper notch 1, lower key 2, hole 2" || err != api.OK {
		t.Error(s, err)
	}
	for _, s := range []string{"cropped, upper notch 1, lower key 2, hole 2", "hole2,lower key 2 , cropped,upper notch 1"} {
		if e, at, err := ear.ParseWords(s); e != sample() || at != 0 || err != api.OK {
			t.Error(s, e, at, err)
		}
	}
}

type mistake struct {
	s    string
	at   int
	want api.Errno
}

// P1.5
func TestParseWordsMistakes(t *testing.T) {
	for _, c := range []mistake{
		{"", 0, api.ErrParse},
		{"    ", 4, api.ErrParse},
		{"whole, slit", 5, api.ErrParse},
		{"whole,", 5, api.ErrParse},
		{"whole whole", 6, api.ErrParse},
		{"whole;", 5, api.ErrParse},
		{"wholeslit", 0, api.ErrParse},
		{"whole0", 5, api.ErrParse},
		{"slit, whole", 6, api.ErrParse},
		{"upper notch 4", 12, api.ErrParse},
		{"upper notch 01", 12, api.ErrParse},
		{"upper notch -1", 12, api.ErrParse},
		{"upper notch 10", 12, api.ErrParse},
		{"upper notch1 1", 13, api.ErrParse},
		{"upper notch", 11, api.ErrParse},
		{"upper notch ", 12, api.ErrParse},
		{"upper", 5, api.ErrParse},
		{"upper hole 1", 6, api.ErrParse},
		{"uppernotch 1", 0, api.ErrParse},
		{"near notch 1", 0, api.ErrParse},
		{"notch 1", 0, api.ErrParse},
		{"hole", 4, api.ErrParse},
		{"hole 3", 5, api.ErrParse},
		{"hole 00", 5, api.ErrParse},
		{"hole notch", 5, api.ErrParse},
		{"hole two", 5, api.ErrParse},
		{"slit,", 5, api.ErrParse},
		{"slit, ", 6, api.ErrParse},
		{",slit", 0, api.ErrParse},
		{"slit,,forked", 5, api.ErrParse},
		{"slit hole 1", 5, api.ErrParse},
		{"Slit", 0, api.ErrParse},
		{"sLit", 0, api.ErrParse},
		{"slit\t", 4, api.ErrParse},
		{"slit\n", 4, api.ErrParse},
		{"slit\u00a0", 4, api.ErrParse},
		{"slit\x00", 4, api.ErrParse},
		{"  \u00e9", 2, api.ErrParse},
		{"slit, \xff", 6, api.ErrParse},
		{"slit, h\u00f6le 1", 6, api.ErrParse},
		{"hole \u0661", 5, api.ErrParse},
		{"slit\u00e9", 4, api.ErrParse},
		{"slit, slit", 6, api.ErrFeature},
		{"slit, forked x", 6, api.ErrFeature},
		{"slit, hole 1, cropped, x", 14, api.ErrFeature},
		{"hole 1 ,  hole 1", 10, api.ErrFeature},
		{"hole 1, hole 2, hole 1", 16, api.ErrFeature},
		{"lower key 0, lower bit 0", 13, api.ErrFeature},
		{"upper notch 1, upper bit 1 x", 15, api.ErrFeature},
		{"upper notch 1, upper bit", 24, api.ErrParse},
		{"upper notch 1, upper bit 2, hole 1, hole 1", 36, api.ErrFeature},
		{"upper notch 1, upper bit 2", 26, api.ErrEar},
		{"upper notch 1, upper bit 2 x", 27, api.ErrParse},
		{"upper notch 1, upper bit 2,", 27, api.ErrParse},
		{"upper bit 3, hollowed", 21, api.ErrEar},
		{"cropped, lower key 3   ", 23, api.ErrEar},
	} {
		if e, at, err := ear.ParseWords(c.s); e != (api.Ear{}) || at != c.at || err != c.want {
			t.Errorf("%q: %v %v %v", c.s, e, at, err)
		}
	}
}

// P1.5
func TestParseMarkMistakes(t *testing.T) {
	for _, c := range []mistake{
		{"", 0, api.ErrParse},
		{" ", 1, api.ErrParse},
		{"near", 4, api.ErrParse},
		{"near whole", 5, api.ErrParse},
		{"near:", 5, api.ErrParse},
		{"near: far", 6, api.ErrParse},
		{"far: whole; near: whole", 0, api.ErrParse},
		{"whole; whole", 0, api.ErrParse},
		{"near: whole", 11, api.ErrParse},
		{"near: whole, slit; far: whole", 11, api.ErrParse},
		{"near: whole far: whole", 12, api.ErrParse},
		{"near: whole;", 12, api.ErrParse},
		{"near: whole;; far: whole", 12, api.ErrParse},
		{"near: whole; near: whole", 13, api.ErrParse},
		{"near: whole; far whole", 17, api.ErrParse},
		{"near: whole; far:", 17, api.ErrParse},
		{"near: whole; far: ;", 18, api.ErrParse},
		{"near: whole; far: whole;", 23, api.ErrParse},
		{"near: whole; far: slit whole", 23, api.ErrParse},
		{"near: slit; far: slit, hole 3", 28, api.ErrParse},
		{"near: slit, slit; far x", 12, api.ErrFeature},
		{"near: slit; far: hole 0, slit, hole 0 x", 31, api.ErrFeature},
		{"near: upper key 2, lower key 3, cropped ; far x", 40, api.ErrEar},
		{"near: cropped, upper key 3; far x", 26, api.ErrEar},
		{"near: cropped, upper key 3;", 26, api.ErrEar},
		{"near: cropped, upper key 3", 26, api.ErrParse},
		{"near: cropped, upper key 3 slit", 27, api.ErrParse},
		{"near: cropped, upper key 3, slit;", 28, api.ErrFeature},
		{"near: whole; far: cropped, upper key 3", 38, api.ErrEar},
		{"near: whole; far: cropped, upper key 3 ", 39, api.ErrEar},
		{"near: whole; far: cropped, upper key 3 ;", 39, api.ErrParse},
	} {
		if m, at, err := ear.ParseMark(c.s); m != (api.Mark{}) || at != c.at || err != c.want {
			t.Errorf("%q: %v %v %v", c.s, m, at, err)
		}
	}
}

// P1.5: the ears of a mark do not share their places.
func TestParseMarkWithEqualPlaces(t *testing.T) {
	m, at, err := ear.ParseMark("near:hole 1,slit;far:hole 1,slit")
	e := api.Ear{Tip: api.Slit, Holes: [3]bool{false, true}}
	if m != (api.Mark{Near: e, Far: e}) || at != 0 || err != api.OK {
		t.Error(m, at, err)
	}
}

// P1.5: ErrLimit for what is longer than MaxText, whatever it contains.
func TestParseLongTexts(t *testing.T) {
	blanks := strings.Repeat(" ", api.MaxText)
	for _, s := range []string{"slit" + blanks[4:], blanks[4:] + "slit"} {
		if e, at, err := ear.ParseWords(s); e != (api.Ear{Tip: api.Slit}) || at != 0 || err != api.OK {
			t.Error(e, at, err)
		}
		if e, at, err := ear.ParseWords(s + " "); e != (api.Ear{}) || at != 0 || err != api.ErrLimit {
			t.Error(e, at, err)
		}
	}
	mark := "near:whole;far:slit"
	s := mark + blanks[len(mark):]
	if m, at, err := ear.ParseMark(s); m != (api.Mark{Far: api.Ear{Tip: api.Slit}}) || at != 0 || err != api.OK {
		t.Error(m, at, err)
	}
	if m, at, err := ear.ParseMark(s + " "); m != (api.Mark{}) || at != 0 || err != api.ErrLimit {
		t.Error(m, at, err)
	}
	for _, letter := range []string{"x", "0", ";", "\xff"} {
		s := strings.Repeat(letter, api.MaxText)
		if e, at, err := ear.ParseWords(s); e != (api.Ear{}) || at != 0 || err != api.ErrParse {
			t.Error(letter, e, at, err)
		}
		if m, at, err := ear.ParseMark(s + letter); m != (api.Mark{}) || at != 0 || err != api.ErrLimit {
			t.Error(letter, m, at, err)
		}
	}
}

// P1.5: a token is one byte where it is neither letters nor digits, so that the parts of a longer character are not skipped.
func TestEveryByteAfterAnEar(t *testing.T) {
	for b := range 256 {
		s := "slit" + string([]byte{byte(b)})
		want := mistake{at: 4, want: api.ErrParse}
		switch {
		case b == ' ':
			want = mistake{}
		case b == ',':
			want.at = 5
		case b >= 'a' && b <= 'z':
			want.at = 0
		}
		if _, at, err := ear.ParseWords(s); at != want.at || err != want.want {
			t.Errorf("%q: %v %v", s, at, err)
		}
	}
}
