package year

import (
	"testing"

	"earmark/api"
)

// P9.3: bodies that mean nothing. No command writes one of them; so this test is inside the package.
func TestReadBodyWrong(t *testing.T) {
	for _, body := range []string{
		"", "5", "5 ", " 5", "x", "miss 0 0 0", "5 miss 0 0", "5 miss 0 0 0 ", "5 miss 0 0 0 0", "5 miss 0 0 65", "5 miss 0 64 0", "5 miss 4096 0 0", "05 miss 0 0 0", "-5 miss 0 0 0", "5  miss 0 0 0", "1048577 miss 0 0 0", "5 miss 0 0 0\n", "\n5 miss 0 0 0", "5 miss 0 0 0\nsheet 0 0 0 1 5 0\n",
		"5 admit 0 0 0 w...........", "5 admit 0 0 16 w........... w...........", "5 admit 0 64 0 w........... w...........", "5 admit 1048577 0 0 w........... w...........", "5 admit 0 0 0 w........... wnn.........", "5 admit 0 0 0 w........... w...........\n", "5 admit 0 0 0 0 w........... w...........",
		"5 rest 0 0", "5 rest 0 8.0", "5 rest 0 0.64", "5 rest 0 0.0 0", "5 rest 0.0", "5 rest", "5 grazings 2", "5 day 1",
		"5 sheet", "5 sheet\n", "5 sheet\nsheet 0 0 0 1 5 0", "5 sheet \nsheet 0 0 0 1 5 0\n", "5 sheet 0 0 0 1 5 0\n", "sheet\nsheet 0 0 0 1 5 0\n", "sheet 0 0 0 1 5 0\n", "5 \nsheet 0 0 0 1 5 0\n", "5\nsheet 0 0 0 1 5 0\n", "5 sheets\nsheet 0 0 0 1 5 0\n", "x sheet\nsheet 0 0 0 1 5 0\n", "1048577 sheet\nsheet 0 0 0 1 5 0\n", "5 sheet\nsheet 0 0 1 1 5 0\n", "5 sheet\n\nsheet 0 0 0 1 5 0\n", "5 sheet\nsheet 0 0 0 1 5 0\n\n", "5 sheet\nsheet 0 0 0 1 5 0\newe 0 0 w...........\n", "5 sheet\n5 miss 0 0 0\n",
	} {
		if day, says, ok := readBody(body); ok {
			t.Errorf("%q: %d %v", body, day, says)
		}
	}
	v := viewOf([]api.Entry{{Body: "5 miss 0 0 1"}, {No: 1, Body: "x"}, {No: 2}, {No: 3, Body: "5 miss 0 0 2\n"}, {No: 4, Body: "5 sheet\n"}, {No: 5, Body: "5 rest 0 8.0"}})
	if len(v.counts) != 1 || v.counts[0] != (count{missing: 1}) || len(v.deeds) != 0 || len(v.sheets) != 0 {
		t.Error(v)
	}
}

// P9.3: bodies that mean something.
func TestReadBody(t *testing.T) {
	for _, x := range []struct {
		body string
		day  int
		want statement
	}{
		{"0 miss 4095 63 64", 0, count{4095, 63, 64}},
		{"1048576 rest 1048576 7.63", api.MaxDay, deed{kind: api.RestE, at: api.MaxDay, about: name{7, 63}}},
		{"5 resume 9 0.1", 5, deed{kind: api.ResumeE, at: 9, about: name{0, 1}}},
		{"5 sell 0 3.0 63", 5, deed{kind: api.SellE, about: name{3, 0}, flock: 63}},
		{"5 move 0 3.0 15", 5, deed{kind: api.MoveE, about: name{3, 0}, grazing: 15}},
		{"5 admit 1 2 3 s........... f...........", 5, deed{kind: api.AdmitE, at: 1, flock: 2, grazing: 3, mark: api.Mark{Near: api.Ear{Tip: 1}, Far: api.Ear{Tip: 2}}}},
		{"5 split 1 2.3 4 s........... f...........", 5, deed{kind: api.SplitE, at: 1, about: name{2, 3}, flock: 4, mark: api.Mark{Near: api.Ear{Tip: 1}, Far: api.Ear{Tip: 2}}}},
	} {
		if day, says, ok := readBody(x.body); day != x.day || says != x.want || !ok {
			t.Errorf("%q: %d %v %v", x.body, day, says, ok)
		}
	}
	// The day of a sheet need not be that on which it is written.
	day, says, ok := readBody("9 sheet\nsheet 1 2 3 4 5 6\newe 1 2 w........... w...........\n")
	s, is := says.(api.Sheet)
	if day != 9 || !ok || !is || s.Day != 5 || s.Grazing != 6 || len(s.Heads) != 1 || s.Heads[0].Paint != 2 {
		t.Error(day, says, ok)
	}
}
