package stray_test

import (
	"math/rand"
	"slices"
	"strings"
	"testing"

	"earmark/api"
	"earmark/stray"
)

// P7.7: each undoes the other.
func TestTexts(t *testing.T) {
	for _, c := range append(smallClaims(), append(someClaims(), wideClaim())...) {
		same := unchanged(t, c)
		s, err := stray.Print(c)
		if s != textOf(c) || err != api.OK {
			t.Fatal(c, s, err)
		}
		if d, line, err := stray.Parse(s); !sameClaim(c, d) || line != 0 || err != api.OK {
			t.Fatal(s, d, line, err)
		}
		same()
	}
	for _, c := range badClaims() {
		if s, err := stray.Print(c); s != "" || err != api.ErrClaim {
			t.Error(c, s, err)
		}
	}
	want := claimOf(1, []int{2, 0}, []int{0, 0, 1, 1})
	if c, line, err := stray.Parse("claim 1\nflock 2\nflock 0\nstray 0 0 1 1\n"); !sameClaim(c, want) || line != 0 || err != api.OK {
		t.Error(c, line, err)
	}
}

// P7.7: the first line that goes wrong.
func TestParseErrors(t *testing.T) {
	good := "claim 1\nflock 2\nflock 0\nstray 0 0 1 1\n"
	many := func(line string, n int) string { return strings.Repeat(line, n) }
	for _, x := range []struct {
		s    string
		line int
	}{
		{"", 1}, {"\n", 1}, {"claim", 1}, {"claim 1", 1}, {"claim\n", 1}, {"claim \n", 1}, {"claim 1 \n", 1}, {" claim 1\n", 1}, {"claim  1\n", 1},
		{"claim 1 1\n", 1}, {"claim 65537\n", 1}, {"claim -1\n", 1}, {"claim -0\n", 1}, {"claim +1\n", 1}, {"claim 01\n", 1}, {"claim 00\n", 1}, {"claim 1x\n", 1}, {"claim 0x1\n", 1},
		{"claim 1_0\n", 1}, {"claim 1\r\n", 1}, {"Claim 1\n", 1}, {"claims 1\n", 1}, {"claim\t1\n", 1}, {"claim 99999999999999999999\n", 1}, {"claim 18446744073709551617\n", 1}, {"claim \x00\n", 1},
		{"flock 1\n", 1}, {"stray 0 0\n", 1}, {"1\n", 1}, {"\nclaim 1\n", 1},
		{"claim 1\n\n", 2}, {"claim 1\nclaim 1\n", 2}, {"claim 1\nflock 65\n", 2}, {"claim 1\nflock -1\n", 2}, {"claim 1\nflock\n", 2}, {"claim 1\nflock 1 1\n", 2}, {"claim 1\nflock 1", 2}, {"claim 1\nflock 01\n", 2},
		{"claim 1\nstray 0 0\n", 2}, {"claim 1\nstray\n", 2}, {"claim 1\nx", 2}, {"claim 1\n ", 2},
		{"claim 1\nflock 1\nstray\n", 3}, {"claim 1\nflock 1\nstray 0\n", 3}, {"claim 1\nflock 1\nstray 1 0\n", 3}, {"claim 1\nflock 1\nstray 0 65537\n", 3}, {"claim 1\nflock 1\nstray 0 0 \n", 3},
		{"claim 1\nflock 1\nstray  0 0\n", 3}, {"claim 1\nflock 1\nstray 0 0", 3}, {"claim 1\nflock 1\nstray 00 0\n", 3}, {"claim 1\nflock 1\nstray -1 0\n", 3},
		// The flocks all stand ahead of the strays.
		{"claim 1\nflock 1\nstray 0 0 1 0\nflock 1\n", 3}, {"claim 1\nflock 1\nstray 0 0\nflock 1\n", 4}, {good + "flock 1\n", 5}, {good + "claim 1\n", 5}, {good + good, 5},
		{good + "stray 1 1 0 0\n", 5}, {good + "stray 0 0 0 0\n", 5}, {good + "stray 0 0 1\n", 5}, {good + "stray 0 0 1 1 2 0\n", 5}, {good + "stray 1 0\nstray 2 0\nx\n", 6},
		{good + "\n", 5}, {good + "x", 5}, {good + "stray 0 0", 5}, {good + "\x00", 5},
		{"claim 0\n" + many("flock 1\n", 65), 66}, {"claim 0\n" + many("flock 1\n", 64) + "stray 64 0\n", 66}, {"claim 0\nflock 64\n" + many("stray 0 0\n", 65), 67},
		{"claim 0\n" + many("flock 1\n", 8191), 66}, {many("\n", 65536), 1}, {"claim 0\n" + many("\n", 65528), 2}, {"claim 1\n" + many(" ", 65528), 2},
	} {
		if c, line, err := stray.Parse(x.s); !sameClaim(c, api.Claim{}) || line != x.line || err != api.ErrParse {
			t.Errorf("%.60q: %v %d %d, want %d", x.s, c, line, err, x.line)
		}
	}
	for _, s := range []string{"claim 0\n" + many("flock 1\n", 64), "claim 0\nflock 64\n" + many("stray 0 0\n", 64), "claim 65536\nflock 0\n", "claim 0\n"} {
		if _, line, err := stray.Parse(s); line != 0 || err != api.OK {
			t.Errorf("%.60q: %d %d", s, line, err)
		}
	}
	for _, s := range []string{many("x", 65537), good + many("\n", 65537-len(good)), textOf(wideClaim()) + many("stray 0 0\n", 8000)} {
		if c, line, err := stray.Parse(s); !sameClaim(c, api.Claim{}) || line != 0 || err != api.ErrLimit {
			t.Error(len(s), line, err)
		}
	}
}

// P7.7: a text with some change is the text of the claim that it prints, or goes wrong.
func TestParseChanged(t *testing.T) {
	r := rand.New(rand.NewSource(78))
	read := 0
	for _, c := range smallClaims() {
		s := []byte(textOf(c))
		for range 1 + r.Intn(2) {
			at := r.Intn(len(s))
			switch b := "0123456789 \nclaimflockstray-+"[r.Intn(29)]; r.Intn(3) {
			case 0:
				s[at] = b
			case 1:
				s = slices.Insert(s, at, b)
			case 2:
				s = slices.Delete(s, at, at+1)
			}
		}
		d, line, err := stray.Parse(string(s))
		if err == api.OK {
			read++
		}
		if err == api.OK && (textOf(d) != string(s) || line != 0) || err != api.OK && (err != api.ErrParse || line < 1 || line > strings.Count(string(s), "\n")+1) {
			t.Errorf("%q %v %d %d", s, d, line, err)
		}
		if err != api.OK {
			// The lines before it are the text of a claim, and with it they are not.
			lines := strings.SplitAfter(string(s), "\n")
			if _, _, err := stray.Parse(strings.Join(lines[:line-1], "")); line > 1 && err != api.OK {
				t.Errorf("%q %d %d", s, line, err)
			}
			if _, at, err := stray.Parse(strings.Join(lines[:line], "")); err != api.ErrParse || at != line {
				t.Errorf("%q %d %d %d", s, line, at, err)
			}
		}
	}
	if read < 50 {
		t.Error(read)
	}
}
