package year_test

import (
	"slices"
	"strconv"
	"strings"
	"testing"

	"earmark/api"
	"earmark/year"
)

// P9.1: which lines of a script are meant for the model.
func TestLines(t *testing.T) {
	for _, x := range []struct {
		script string
		want   []string
	}{
		{"", nil},
		{"\n", nil},
		{"\n\n\n", nil},
		{"#", nil},
		{"# a remark\n#\n##\n", nil},
		{"day 1", []string{"day 1"}},
		{"day 1\n", []string{"day 1"}},
		{"\nday 1\n\n#\nday 2\nx # y\n #\n", []string{"day 1", "day 2", "x # y", " #"}},
		{"a\r\n \nb\n\t\nb", []string{"a\r", " ", "b", "\t", "b"}},
		{"\xff\n\x00\n", []string{"\xff", "\x00"}},
	} {
		if l, err := year.Lines(x.script); !slices.Equal(l, x.want) || err != api.OK {
			t.Errorf("%q: %q %d", x.script, l, err)
		}
	}
}

// P9.1: the limits of a script, which count for Run, too.
func TestLinesLimits(t *testing.T) {
	for _, x := range []struct {
		script string
		lines  int
		err    api.Errno
	}{
		{strings.Repeat("sendall\n", 400), 400, api.OK},
		{strings.Repeat("sendall\n", 401), 0, api.ErrLimit},
		{strings.Repeat("sendall\n", 400) + "sendall", 0, api.ErrLimit},
		{strings.Repeat("sendall\n\n# no\n", 400), 400, api.OK},
		{strings.Repeat("#\n", 32768), 0, api.OK},
		{strings.Repeat("\n", 65536), 0, api.OK},
		{strings.Repeat("\n", 65537), 0, api.ErrLimit},
		{"sendall\n#" + strings.Repeat("x", 65527), 1, api.OK},
		{"sendall\n#" + strings.Repeat("x", 65528), 0, api.ErrLimit},
	} {
		l, err := year.Lines(x.script)
		if len(l) != x.lines || err != x.err {
			t.Errorf("%.20q: %d %d", x.script, len(l), err)
		}
		output, at, err := year.Run(x.script)
		if at != 0 || err != x.err || output != strings.Repeat("error 91\n", x.lines) {
			t.Errorf("%.20q: %.20q %d %d", x.script, output, at, err)
		}
	}
}

// P9.1: the index of the first line that is no command, before anything is done.
func TestRunWrong(t *testing.T) {
	for _, x := range []struct {
		script string
		at     int
	}{
		{"x", 0},
		{"# x\n\nx\ny", 0},
		{"day 1\n\n# x\nday 0\nx", 1},
		{strings.Repeat("sendall\n", 399) + "sendall ", 399},
		{"day 1\r\n", 0},
		{" ", 0},
	} {
		if output, at, err := year.Run(x.script); output != "" || at != x.at || err != api.ErrCommand {
			t.Errorf("%.20q: %q %d %d", x.script, output, at, err)
		}
	}
}

// P9.1, P9.2: the chapter's examples.
func TestExamples(t *testing.T) {
	checkRun(t, "day 1", "error 91\n")
	for _, x := range []struct {
		line string
		err  api.Errno
	}{
		{"grazings 2", api.OK},
		{"grazings 17", api.ErrCommand},
		{"gate 0 1 100 200", api.ErrFell},
		{"begin 1 4 0 0 7", api.ErrFell},
		{"sendall", api.ErrState},
	} {
		if output, err := year.New().Do(x.line); output != "" || err != x.err {
			t.Error(x.line, output, err)
		}
	}
	y := modelOf(t, "grazings 1", "begin 1 4 0 0 7")
	if output, err := y.Do("write 0 admit 0 3 0 w........... c.n........o"); output != "0.0" || err != api.OK {
		t.Error(output, err)
	}
}

// P9.1: what a script prints is what a model answers, line by line.
func TestRun(t *testing.T) {
	script := `
# two parishes
grazings 2
gate 0 1 100 200
begin 2 4 1 0 7
day 10

write 0 admit 5 1 0 w........... w...........
write 1 admit 5 2 1 w.n......... w...........
write 1 admit 5 3 1 w.k......... w...........
marks 0 10
send 1 0
send 1 1
refused 0
owner 0 1.0 10
owner 0 1.1 10
missing 0
`
	want := []string{"", "", "", "10", "0.0", "1.0", "1.1", "0 1 0 in use w........... w...........", "2", "error 91", "1", "error 52", "3", ""}
	checkRun(t, script, strings.Join(want, "\n")+"\n")
	l, _ := year.Lines(script)
	y, text := year.New(), ""
	for _, line := range l {
		output, err := y.Do(line)
		if err != api.OK {
			output = "error " + strconv.Itoa(int(err))
		}
		text += output + "\n"
	}
	if text != strings.Join(want, "\n")+"\n" {
		t.Error(text)
	}
}

// P9.1: the script of README.md.
func TestReadme(t *testing.T) {
	script := `
# two grazings that are never connected, and two parishes
grazings 2
begin 2 16 1 0 7
day 10
write 0 admit 5 1 0 w........... w...........
write 1 admit 5 2 0 w.n......... w...........
sheet 1 3 0 0 1 0 ; ewe 2 0 w.b......... w...........
write 1 miss 3 1 1
sendall
refused 0
verdicts 0 3 1
crash 0 2
write 0 rest 10 0.0
open 0 9
agree 0 1
`
	checkRun(t, script, "\n\n10\n0.0\n1.0\n1.1\n1.2\n4\n1\n1\n\nerror 83\n\nyes\n")
}

// checkRun checks what a script prints, also the second time.
func checkRun(t *testing.T, script, want string) {
	t.Helper()
	for range 2 {
		if output, at, err := year.Run(script); output != want || at != 0 || err != api.OK {
			t.Errorf("%q %d %d, not %q", output, at, err, want)
		}
	}
}
