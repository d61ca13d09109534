package sheets_test

import (
	"math/rand"
	"slices"
	"strings"
	"testing"

	"earmark/api"
	"earmark/sheets"
)

const exampleText = "sheet 3 1 0 2 100 2\newe 0 0 w........... w...........\nram 4 63 w.n......... c......k..o.\nwether 2 10 s........... w..........o\n"

// P6.7
func TestPrintHead(t *testing.T) {
	for _, x := range []struct {
		h    api.Head
		want string
	}{
		{api.Head{}, "ewe 0 0 w........... w..........."},
		{headOf(1, 4, 63, notched), "ram 4 63 w.n......... w..........."},
		{headOf(2, 1, 10, cropped), "wether 1 10 w........... c......k.o.o"},
		{headOf(0, 3, 9, bitten), "ewe 3 9 w.b......... w..........."},
	} {
		if s, err := sheets.PrintHead(x.h); s != x.want || err != api.OK {
			t.Error(x, s, err)
		}
		if h, err := sheets.ParseHead(x.want); h != x.h || err != api.OK {
			t.Error(x, h, err)
		}
	}
	for _, h := range badHeads() {
		if s, err := sheets.PrintHead(h); s != "" || err != api.ErrHead {
			t.Error(h, s, err)
		}
	}
}

// P6.7: each undoes the other.
func TestParseOfPrint(t *testing.T) {
	r := rand.New(rand.NewSource(74))
	for n := range 1000 {
		h := randomHead(r)
		text, err := sheets.PrintHead(h)
		if text != headText(h) || err != api.OK {
			t.Fatal(h, text, err)
		}
		if got, err := sheets.ParseHead(text); got != h || err != api.OK {
			t.Fatal(text, got, err)
		}
		s := randomSheet(r)
		for range n % 62 {
			s.Heads = append(s.Heads, randomHead(r))
		}
		text, err = sheets.Print(s)
		if text != sheetText(s) || err != api.OK {
			t.Fatal(s, text, err)
		}
		if got, line, err := sheets.Parse(text); !sameSheet(got, s) || line != 0 || err != api.OK {
			t.Fatal(text, got, line, err)
		}
	}
}

// P6.7: examples, and the least and the greatest numbers.
func TestPrint(t *testing.T) {
	example := api.Sheet{Gathering: 3, Clerk: 1, Parts: 2, Day: 100, Grazing: 2, Heads: []api.Head{
		{}, headOf(1, 4, 63, api.Mark{Near: api.Ear{Upper: [4]int{0, api.Notch}}, Far: api.Ear{Tip: api.Cropped, Lower: [4]int{0, 0, api.Key}, Holes: [3]bool{false, true, false}}}),
		headOf(2, 2, 10, api.Mark{Near: api.Ear{Tip: api.Slit}, Far: api.Ear{Holes: [3]bool{false, false, true}}}),
	}}
	for _, x := range []struct {
		s    api.Sheet
		want string
	}{
		{api.Sheet{Gathering: 3, Clerk: 1, Parts: 1, Day: 100, Grazing: 2}, "sheet 3 1 0 1 100 2\n"},
		{api.Sheet{Parts: 1}, "sheet 0 0 0 1 0 0\n"},
		{api.Sheet{Gathering: 4095, Clerk: 4094, Part: 15, Parts: 16, Day: 1048576, Grazing: 15}, "sheet 4095 4094 15 16 1048576 15\n"},
		{example, exampleText},
	} {
		if s, err := sheets.Print(x.s); s != x.want || err != api.OK {
			t.Error(x, s, err)
		}
		if s, line, err := sheets.Parse(x.want); !sameSheet(s, x.s) || line != 0 || err != api.OK {
			t.Error(x, s, line, err)
		}
	}
	for _, s := range badSheets() {
		if text, err := sheets.Print(s); text != "" || err != api.ErrSheet {
			t.Error(s, text, err)
		}
	}
}

// badHeadTexts are no texts of heads.
func badHeadTexts() []string {
	return []string{
		"", " ", "ewe", "ewe ", "ewe 0", "ewe 0 0", "ewe 0 0 w...........", "ewe 0 0 w........... ", "ewe 0 0 w........... w.......... ", "ewe 0 0 w........... w........... ", "ewe 0 0 w........... w........... 0", "ewe 0 0 w........... w........... w...........",
		" ewe 0 0 w........... w...........", "ewe  0 0 w........... w...........", "ewe 0  0 w........... w...........", "ewe 0 0 w...........  w...........", "ewe 0 0 w........... w...........\r", "ewe\t0 0 w........... w...........", "0 0 w........... w...........", " 0 0 w........... w...........",
		"Ewe 0 0 w........... w...........", "ewes 0 0 w........... w...........", "0 0 0 w........... w...........", "lamb 0 0 w........... w...........", "wethe 0 0 w........... w...........",
		"ewe 5 0 w........... w...........", "ewe -1 0 w........... w...........", "ewe -0 0 w........... w...........", "ewe +0 0 w........... w...........", "ewe 00 0 w........... w...........", "ewe 01 0 w........... w...........", "ewe x 0 w........... w...........", "ewe 0x0 0 w........... w...........", "ewe ４ 0 w........... w...........", "ewe 18446744073709551616 0 w........... w...........", "ewe 99999999999999999999999999999 0 w........... w...........",
		"ewe 0 64 w........... w...........", "ewe 0 -1 w........... w...........", "ewe 0 +1 w........... w...........", "ewe 0 007 w........... w...........", "ewe 0 1_0 w........... w...........", "ewe 0 1e1 w........... w...........", "ewe 0 9223372036854775808 w........... w...........", "ewe 0 18446744073709551617 w........... w...........",
		"ewe 0 0 w.......... w...........", "ewe 0 0 w............ w...........", "ewe 0 0 W........... w...........", "ewe 0 0 wnn......... w...........", "ewe 0 0 c...n....... w...........", "ewe 0 0 whole whole", "ewe 0 0 w........... x...........", "ewe 0 0 w........... w.........oO", "ewe 0 0 w........... h.......b...", "ewe 0 0 w........... w....k", "ewe 0 0  w...........",
	}
}

// P6.7: what is not the text of a head.
func TestParseHeadErrors(t *testing.T) {
	long := strings.Repeat("0", 70000)
	for _, s := range append(badHeadTexts(), "\n", "ewe 0 0 w........... w...........\n", "ewe 0\n0 w........... w...........", strings.Repeat(" ", 70000), strings.Repeat("ewe ", 70000), "ewe "+long+" 0 w........... w...........", "ewe 0 0 w........... w..........."+long) {
		if h, err := sheets.ParseHead(s); h != (api.Head{}) || err != api.ErrParse {
			t.Errorf("%.60q %v %d", s, h, err)
		}
	}
}

func checkWrong(t *testing.T, s string, line int, want api.Errno) {
	t.Helper()
	if made, n, err := sheets.Parse(s); !sameSheet(made, api.Sheet{}) || n != line || err != want {
		t.Errorf("%.80q: %v %d %d, not %d %d", s, made, n, err, line, want)
	}
}

// P6.7: the first line that goes wrong.
func TestParseErrors(t *testing.T) {
	for _, s := range []string{
		"", "\n", " ", "x", "sheet", "sheet\n", "sheet \n", "sheet 3 1 0 1 100 2", "sheet 3 1 0 1 100\n", "sheet 3 1 0 1 100 \n", "sheet 3 1 0 1 100 2 \n", "sheet 3 1 0 1 100 2 0\n", " sheet 3 1 0 1 100 2\n", "sheet  3 1 0 1 100 2\n", "sheet 3 1 0 1 100  2\n", "sheet\t3 1 0 1 100 2\n", "sheet 3 1 0 1 100 2\r\n", "Sheet 3 1 0 1 100 2\n", "sheets 3 1 0 1 100 2\n", "3 1 0 1 100 2\n", "sheet\n3 1 0 1 100 2\n",
		"sheet 4096 1 0 1 100 2\n", "sheet 3 4096 0 1 100 2\n", "sheet 3 1 1 1 100 2\n", "sheet 3 1 2 1 100 2\n", "sheet 3 1 0 0 100 2\n", "sheet 3 1 0 17 100 2\n", "sheet 3 1 16 17 100 2\n", "sheet 3 1 0 1 1048577 2\n", "sheet 3 1 0 1 100 16\n",
		"sheet -1 1 0 1 100 2\n", "sheet 3 -1 0 1 100 2\n", "sheet 3 1 -1 1 100 2\n", "sheet 3 1 -1 0 100 2\n", "sheet 3 1 0 1 -100 2\n", "sheet 3 1 0 1 100 -2\n", "sheet 3 1 0 1 100 -0\n", "sheet 3 1 -0 1 100 2\n",
		"sheet 03 1 0 1 100 2\n", "sheet 3 1 00 1 100 2\n", "sheet 3 1 0 +1 100 2\n", "sheet 3 1 0 1 0x64 2\n", "sheet 3 1 0 1 1e2 2\n", "sheet 3 1 0 1 1_00 2\n", "sheet ３ 1 0 1 100 2\n", "sheet 3 1 0 1 18446744073709551716 2\n", "sheet 9223372036854775808 1 0 1 100 2\n", "sheet 3 1 0 1 100 two\n",
		"sheet 3 1 0 1 100 16\nx\n", "ewe 0 0 w........... w...........\nsheet 3 1 0 1 100 2\n", "\nsheet 3 1 0 1 100 2\n", "sheet 3 1 0 1 100 2\x00\n", "sheet " + strings.Repeat("9", 60000) + "\n", strings.Repeat(" ", 60000) + "\n",
	} {
		checkWrong(t, s, 1, api.ErrParse)
	}
	const first, head = "sheet 3 1 0 1 100 2\n", "ram 1 2 w........... w.........oo\n"
	for _, s := range append(badHeadTexts(), "sheet 3 1 0 1 100 2", "sheet 3 1 1 2 100 2") {
		checkWrong(t, first+s+"\n", 2, api.ErrParse)
		checkWrong(t, first+s+"\n"+head, 2, api.ErrParse)
		checkWrong(t, first+head+head+s+"\n"+s+"\n", 4, api.ErrParse)
		if s != "" {
			checkWrong(t, first+s, 2, api.ErrParse)
			checkWrong(t, first+head+s, 3, api.ErrParse)
		}
	}
	checkWrong(t, first+head+head[:len(head)-1], 3, api.ErrParse)
	checkWrong(t, first+head[:len(head)-1]+"\r\n", 2, api.ErrParse)
}

// P6.7: each beginning of a text goes wrong in its last line, unless it ends with it.
func TestParseBeginnings(t *testing.T) {
	for n := range len(exampleText) {
		s := exampleText[:n]
		lines := strings.Count(s, "\n")
		if n > 0 && s[n-1] == '\n' {
			if made, line, err := sheets.Parse(s); len(made.Heads) != lines-1 || line != 0 || err != api.OK {
				t.Error(s, made, line, err)
			}
			continue
		}
		checkWrong(t, s, 1+lines, api.ErrParse)
	}
}

// P6.7: as many heads and bytes as there may be.
func TestParseLimits(t *testing.T) {
	h := headOf(2, 4, 63, cropped)
	full := part(4095, 4095, 15, 16, slices.Repeat([]api.Head{h}, 64)...)
	text, line := sheetText(full), headText(h)+"\n"
	if s, n, err := sheets.Parse(text); !sameSheet(s, full) || n != 0 || err != api.OK {
		t.Error(len(s.Heads), n, err)
	}
	checkWrong(t, text+line, 66, api.ErrParse)
	checkWrong(t, text+line+"x\n", 66, api.ErrParse)
	checkWrong(t, text+"x", 66, api.ErrParse)
	checkWrong(t, text+"\n", 66, api.ErrParse)
	long := strings.Repeat("x", api.MaxText)
	checkWrong(t, long, 1, api.ErrParse)
	checkWrong(t, long+"x", 0, api.ErrLimit)
	checkWrong(t, text+long, 0, api.ErrLimit)
	checkWrong(t, (text + long)[:api.MaxText], 66, api.ErrParse)
	checkWrong(t, strings.Repeat("\n", api.MaxText), 1, api.ErrParse)
	checkWrong(t, strings.Repeat("\n", api.MaxText+1), 0, api.ErrLimit)
	checkWrong(t, text+strings.Repeat("\n", api.MaxText-len(text)), 66, api.ErrParse)
}

// P6.7: whatever byte is changed, left out or put in, what is accepted is what Print returns.
func TestParseAcceptsNoOtherText(t *testing.T) {
	accepted := 0
	check := func(s string) {
		made, line, err := sheets.Parse(s)
		if err == api.OK {
			accepted++
			if got, _ := sheets.Print(made); got != s || line != 0 {
				t.Fatalf("%q %q", s, got)
			}
		} else if !sameSheet(made, api.Sheet{}) || err != api.ErrParse || line < 1 || line > 1+strings.Count(s, "\n") {
			t.Fatalf("%q %d %d", s, line, err)
		}
		head, err := sheets.ParseHead(s)
		if err == api.OK {
			accepted++
			if got, _ := sheets.PrintHead(head); got != s {
				t.Fatalf("%q %q", s, got)
			}
		} else if head != (api.Head{}) || err != api.ErrParse {
			t.Fatalf("%q %v %d", s, head, err)
		}
	}
	for _, text := range []string{sheetText(part(3, 12, 1, 2, headOf(1, 4, 63, cropped), headOf(0, 0, 0, notched))), headText(headOf(2, 3, 10, cropped))} {
		for i := range len(text) {
			check(text[:i] + text[i+1:])
			for c := range 256 {
				b := string([]byte{byte(c)})
				check(text[:i] + b + text[i+1:])
				check(text[:i] + b + text[i:])
			}
		}
	}
	if accepted < 400 {
		t.Error(accepted)
	}
}
