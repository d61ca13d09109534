package register_test

import (
	"strings"
	"testing"

	"earmark/api"
	"earmark/register"
)

// P5.6, examples, and texts of each kind with the least and with the greatest numbers.
func TestPrintAndParseEvent(t *testing.T) {
	m := markOf("near: whole; far: cropped, upper notch 0, hole 2")
	for _, x := range []struct {
		e    api.Event
		want string
	}{
		{at(10, 50, admit(m, 1, 0)), "admit 0 10 50 1 0 w........... cn.........o"},
		{number(2, at(30, 50, move(0, 1))), "move 2 30 50 0 1"},
		{admit(api.Mark{}, 0, 0), "admit 0 0 0 0 0 w........... w..........."},
		{number(4095, at(1048576, 1048576, admit(markC, 63, 15))), "admit 4095 1048576 1048576 63 15 c.k......... w..........."},
		{sell(0, 0), "sell 0 0 0 0 0"},
		{number(4095, at(1048576, 0, sell(4094, 63))), "sell 4095 1048576 0 4094 63"},
		{number(1, split(2, markN, 3)), "split 1 0 0 2 3 w.n......... w..........."},
		{number(4095, at(0, 1048576, split(4095, m, 63))), "split 4095 0 1048576 4095 63 w........... cn.........o"},
		{number(3, at(4, 5, rest(6))), "rest 3 4 5 6"},
		{rest(0), "rest 0 0 0 0"},
		{number(3, at(4, 5, resume(4095))), "resume 3 4 5 4095"},
		{resume(0), "resume 0 0 0 0"},
		{number(3, at(4, 5, move(6, 15))), "move 3 4 5 6 15"},
		{move(0, 0), "move 0 0 0 0 0"},
	} {
		if s, err := register.PrintEvent(x.e); s != x.want || err != api.OK {
			t.Error(x, s, err)
		}
		if e, err := register.ParseEvent(x.want); e != x.e || err != api.OK {
			t.Error(x, e, err)
		}
	}
	if s, err := register.PrintEvent(eventOf("admit 0 10 50 1 0 w........... c.n........o")); s != "admit 0 10 50 1 0 w........... c.n........o" || err != api.OK {
		t.Error(s, err)
	}
}

// P5.6: each undoes the other.
func TestParseOfPrint(t *testing.T) {
	texts := map[string]bool{}
	events := goodEvents()
	for _, r := range someRegisters() {
		events = append(events, r.Events...)
	}
	for _, e := range events {
		s, err := register.PrintEvent(e)
		if err != api.OK {
			t.Fatal(e, err)
		}
		texts[s] = true
		if got, err := register.ParseEvent(s); got != e || err != api.OK {
			t.Fatal(s, got, err)
		}
	}
	if len(texts) < 150 {
		t.Error(len(texts))
	}
}

// P5.6
func TestPrintOfBadEvents(t *testing.T) {
	for _, e := range badEvents() {
		want := api.ErrEvent
		if e.Grazing == 5 && register.CheckEvent(api.Fell{Grazings: 16}, e) == api.OK {
			want = api.OK
		}
		if s, err := register.PrintEvent(e); (s == "") != (err != api.OK) || err != want {
			t.Error(e, s, err)
		}
	}
	for _, e := range []api.Event{admit(markW, 0, 16), move(0, 16), {}} {
		if s, err := register.PrintEvent(e); s != "" || err != api.ErrEvent {
			t.Error(e, s, err)
		}
	}
}

// P5.6: what is not the text of an event.
func TestParseErrors(t *testing.T) {
	for _, s := range []string{
		"", " ", "\n", "rest", "rest ", "rest 3", "rest 3 4", "rest 3 4 5", "rest 3 4 5 ", "rest 3 4 5 6 ", " rest 3 4 5 6", "rest  3 4 5 6", "rest 3 4 5  6", "rest 3 4 5 6 7", "rest 3 4 5 6\n", "rest 3 4 5 6\r", "rest\t3 4 5 6", "rest 3\n4 5 6",
		"Rest 3 4 5 6", "rests 3 4 5 6", "3 4 5 6", "0 3 4 5 6", "4 3 4 5 6", " 3 4 5 6", "rest,3 4 5 6",
		"rest 03 4 5 6", "rest 3 +4 5 6", "rest 3 4 -5 6", "rest 3 4 5 -6", "rest 3 4 5 -0", "rest 3 4 5 00", "rest 3 4 5 0x6", "rest 3 4 5 6.0", "rest 3 4 5 6e0", "rest 3 4 5 1_0", "rest 3 4 5 ６", "rest 3 4 5 six",
		"rest 4096 4 5 6", "rest 3 1048577 5 6", "rest 3 4 1048577 6", "rest 3 4 5 4096", "rest 3 4 5 9223372036854775808", "rest 18446744073709551616 4 5 6", "rest 3 4 5 18446744073709551622", "rest 3 4 5 99999999999999999999999999",
		"resume 3 4 5 4096", "resume 3 4 5", "resume 3 4 5 6 0",
		"sell 3 4 5 6", "sell 3 4 5 6 64", "sell 3 4 5 4096 6", "sell 3 4 5 6 7 0", "sell 3 4 5 6 -1",
		"move 3 4 5 6", "move 3 4 5 6 16", "move 3 4 5 4096 0", "move 3 4 5 6 1 0",
		"admit 0 10 50 1 0", "admit 0 10 50 1 0 w...........", "admit 0 10 50 1 0 w........... w........... w...........", "admit 0 10 50 1 0 w...........  w...........", "admit 0 10 50 1 0 w........... w.......... ",
		"admit 0 10 50 64 0 w........... w...........", "admit 0 10 50 1 16 w........... w...........", "admit 0 10 50 0 1 0 w........... w...........", "admit 0 10 50 1 w........... w...........",
		"admit 0 10 50 1 0 wnn......... w...........", "admit 0 10 50 1 0 w........... c...n.......", "admit 0 10 50 1 0 w.......... w...........", "admit 0 10 50 1 0 w............ w...........", "admit 0 10 50 1 0 W........... w...........", "admit 0 10 50 1 0 whole whole",
		"split 1 0 0 2 3", "split 1 0 0 2 3 w...........", "split 1 0 0 2 64 w........... w...........", "split 1 0 0 4096 3 w........... w...........", "split 1 0 0 2 3 0 w........... w...........", "split 1 0 0 2 3 w........... x...........",
		strings.Repeat(" ", 70000), strings.Repeat("rest ", 70000), "rest 3 4 5 " + strings.Repeat("6", 70000),
	} {
		if e, err := register.ParseEvent(s); e != (api.Event{}) || err != api.ErrParse {
			t.Errorf("%.60q %v %d", s, e, err)
		}
	}
}

// P5.6: whatever byte is changed, left out or put in, what is accepted is what PrintEvent returns.
func TestParseAcceptsNoOtherText(t *testing.T) {
	accepted := 0
	check := func(s string) {
		e, err := register.ParseEvent(s)
		if err == api.OK {
			accepted++
			if got, _ := register.PrintEvent(e); got != s {
				t.Fatalf("%q %q", s, got)
			}
		} else if e != (api.Event{}) || err != api.ErrParse {
			t.Fatalf("%q %v %d", s, e, err)
		}
	}
	for _, text := range []string{"admit 0 10 50 1 0 w........... c.n........o", "sell 1 30 50 2 3", "split 1 0 0 2 3 w.n......... w...........", "rest 3 4 5 6", "resume 3 4 5 6", "move 2 30 50 0 1"} {
		for i := range len(text) {
			check(text[:i] + text[i+1:])
			for c := range 256 {
				b := string([]byte{byte(c)})
				check(text[:i] + b + text[i+1:])
				check(text[:i] + b + text[i:])
			}
		}
	}
	if accepted < 300 {
		t.Error(accepted)
	}
}
