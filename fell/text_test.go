package fell_test

import (
	"strings"
	"testing"

	"earmark/api"
	"earmark/fell"
)

const exampleText = "fell 4\ngate 0 1 100 200\ngate 1 2 150 160\ngate 1 2 300 20\ngate 2 3 5 5\n"

// P4.4
func TestPrint(t *testing.T) {
	for _, x := range []struct {
		f    api.Fell
		want string
	}{
		{exampleFell(), exampleText},
		{api.Fell{Grazings: 1}, "fell 1\n"},
		{api.Fell{Grazings: 16, Gates: []api.Gate{{A: 10, B: 15, From: 0, To: 359}}}, "fell 16\ngate 10 15 0 359\n"},
	} {
		if got, err := fell.Print(x.f); got != x.want || err != api.OK {
			t.Error(x, got, err)
		}
		if got, line, err := fell.Parse(x.want); !sameFell(got, x.f) || line != 0 || err != api.OK {
			t.Error(x, got, line, err)
		}
	}
}

// P4.4 and P4.10
func TestParseOfPrint(t *testing.T) {
	texts := map[string]bool{}
	for _, f := range append(someFells(), smallFells()...) {
		s, err := fell.Print(f)
		if err != api.OK {
			t.Fatal(f, err)
		}
		texts[s] = true
		if got, line, err := fell.Parse(s); !sameFell(got, f) || line != 0 || err != api.OK {
			t.Fatal(s, got, line, err)
		}
	}
	if len(texts) < 120 {
		t.Error(len(texts))
	}
}

func checkWrong(t *testing.T, s string, line int, want api.Errno) {
	t.Helper()
	if f, n, err := fell.Parse(s); f.Grazings != 0 || len(f.Gates) != 0 || n != line || err != want {
		t.Errorf("%.80q: %v %d %d, not %d %d", s, f, n, err, line, want)
	}
}

// P4.4: the first line that goes wrong.
func TestParseErrors(t *testing.T) {
	for _, x := range []struct {
		s    string
		line int
	}{
		{"", 1}, {"\n", 1}, {"fell 2", 1}, {"fell", 1}, {"fell\n", 1}, {"fell \n", 1}, {"fel", 1}, {"x", 1},
		{"fell 0\n", 1}, {"fell 17\n", 1}, {"fell -1\n", 1}, {"fell +2\n", 1}, {"fell 02\n", 1}, {"fell 2 \n", 1}, {" fell 2\n", 1}, {"fell  2\n", 1}, {"fell\t2\n", 1}, {"fell 2\r\n", 1}, {"Fell 2\n", 1}, {"fell 2 3\n", 1}, {"fell two\n", 1}, {"fell 0x2\n", 1}, {"fell 1_0\n", 1}, {"fell 2.0\n", 1}, {"fell ２\n", 1},
		{"fell 18446744073709551618\n", 1}, {"fell 9223372036854775807\n", 1}, {"fell 4294967298\n", 1}, {"fell 99999999999999999999999999999999\n", 1},
		{"gate 0 1 5 6\n", 1}, {"gate 0 1 5 6\nfell 2\n", 1}, {"\nfell 2\n", 1}, {"fell 0\nx", 1}, {"fell 2\x00\n", 1},
		{"fell 2\ngate 1 0 5 6\n", 2}, {"fell 2\ngate 0 0 5 6\n", 2}, {"fell 2\ngate 0 2 5 6\n", 2}, {"fell 2\ngate -1 1 5 6\n", 2}, {"fell 2\ngate -0 1 5 6\n", 2},
		{"fell 2\ngate 0 1 360 6\n", 2}, {"fell 2\ngate 0 1 5 360\n", 2}, {"fell 2\ngate 0 1 -5 6\n", 2}, {"fell 2\ngate 0 1 5 -6\n", 2},
		{"fell 2\ngate 0 1 05 6\n", 2}, {"fell 2\ngate 00 1 5 6\n", 2}, {"fell 2\ngate 0 1 5 +6\n", 2}, {"fell 2\ngate 0 1 5 18446744073709551616\n", 2},
		{"fell 2\ngate 0 1 5\n", 2}, {"fell 2\ngate 0 1 5 6 7\n", 2}, {"fell 2\ngate 0 1 5 6 \n", 2}, {"fell 2\n gate 0 1 5 6\n", 2}, {"fell 2\ngate  0 1 5 6\n", 2}, {"fell 2\ngate 0 1  5 6\n", 2}, {"fell 2\ngate\n", 2}, {"fell 2\ngates 0 1 5 6\n", 2}, {"fell 2\n0 1 5 6\n", 2},
		{"fell 2\n\n", 2}, {"fell 2\n ", 2}, {"fell 2\n\ngate 0 1 5 6\n", 2}, {"fell 2\nfell 2\n", 2}, {"fell 2\nfell 3\ngate 1 2 0 0\n", 2}, {"fell 2\ng", 2}, {"fell 1\ngate 0 1 5 6\n", 2},
		{"fell 2\ngate 0 1 5 6", 2}, {"fell 2\r\ngate 0 1 5 6\r\n", 1}, {"fell 2\ngate 0 1 5 6\r\n", 2},
		{"fell 2\ngate 0 1 5 6\n\n", 3}, {"fell 2\ngate 0 1 5 6\ngate 0 1 5 6", 3}, {"fell 2\ngate 0 1 5 6\nx\ngate 1 0 5 6\n", 3}, {"fell 2\ngate 0 1 5 6\nfell 2\n", 3},
	} {
		checkWrong(t, x.s, x.line, api.ErrParse)
	}
}

// P4.4: each beginning of a text goes wrong in its last line, unless it ends with it.
func TestParseBeginnings(t *testing.T) {
	for n := range len(exampleText) {
		s := exampleText[:n]
		if n > 0 && s[n-1] == '\n' {
			if f, line, err := fell.Parse(s); len(f.Gates) != strings.Count(s, "\n")-1 || line != 0 || err != api.OK {
				t.Error(s, f, line, err)
			}
			continue
		}
		checkWrong(t, s, 1+strings.Count(s, "\n"), api.ErrParse)
	}
}

// P4.4: as many gates and bytes as there may be.
func TestParseLimits(t *testing.T) {
	const gate = "gate 0 1 5 6\n"
	full := "fell 2\n" + strings.Repeat(gate, api.MaxGates)
	if f, line, err := fell.Parse(full); len(f.Gates) != 32 || line != 0 || err != api.OK {
		t.Error(f, line, err)
	}
	checkWrong(t, full+gate, 34, api.ErrParse)
	checkWrong(t, full+gate+"x\n", 34, api.ErrParse)
	checkWrong(t, full+"x", 34, api.ErrParse)
	long := strings.Repeat("x", api.MaxText)
	checkWrong(t, long, 1, api.ErrParse)
	checkWrong(t, long+"x", 0, api.ErrLimit)
	checkWrong(t, full+long, 0, api.ErrLimit)
	checkWrong(t, (full + long)[:api.MaxText], 34, api.ErrParse)
	checkWrong(t, strings.Repeat("\n", api.MaxText), 1, api.ErrParse)
	checkWrong(t, strings.Repeat(" ", api.MaxText-1)+"\n", 1, api.ErrParse)
	checkWrong(t, "fell "+strings.Repeat("9", api.MaxText-6)+"\n", 1, api.ErrParse)
}

// P4.10: whatever byte is changed, left out or put in, what is accepted is what Print returns.
func TestParseAcceptsNoOtherText(t *testing.T) {
	accepted := 0
	check := func(s string) {
		f, line, err := fell.Parse(s)
		if err == api.OK {
			accepted++
			if got, _ := fell.Print(f); got != s || line != 0 {
				t.Fatalf("%q %q", s, got)
			}
		} else if err != api.ErrParse || line < 1 || line > 1+strings.Count(s, "\n") {
			t.Fatalf("%q %d %d", s, line, err)
		}
	}
	for at := range len(exampleText) {
		before, after := exampleText[:at], exampleText[at+1:]
		check(before + after)
		for c := range 256 {
			b := string([]byte{byte(c)})
			check(before + b + after)
			check(before + b + exampleText[at:])
		}
	}
	if accepted < 200 {
		t.Error(accepted)
	}
}
