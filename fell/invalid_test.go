package fell_test

import (
	"testing"

	"earmark/api"
	"earmark/fell"
)

// badGrazings do not exist on a fell with 4 grazings, badDays never.
var (
	badGrazings = []int{least, -1, 4, 5, 16, 1 << 32, most}
	badDays     = []int{least, -360, -1, api.MaxDay + 1, api.MaxDay + 360, 1 << 32, most}
)

// args are the arguments of a call besides the fell.
type args struct{ a, b, gate, from, to int }

func goodArgs() args { return args{a: 0, b: 1, gate: 2, from: 100, to: 200} }

// call is a call of a function, which reports whether the results besides the error are all zero, and the fields of args that it has.
type call struct {
	name string
	has  string
	run  func(f api.Fell, x args) (bool, api.Errno)
}

func calls() []call {
	return []call{
		{"Open", "gf", func(f api.Fell, x args) (bool, api.Errno) {
			is, err := fell.Open(f, x.gate, x.from)
			return !is, err
		}},
		{"OpenGates", "f", func(f api.Fell, x args) (bool, api.Errno) {
			l, err := fell.OpenGates(f, x.from)
			return len(l) == 0, err
		}},
		{"Parts", "f", func(f api.Fell, x args) (bool, api.Errno) {
			l, err := fell.Parts(f, x.from)
			return len(l) == 0, err
		}},
		{"Together", "abf", func(f api.Fell, x args) (bool, api.Errno) {
			is, err := fell.Together(f, x.a, x.b, x.from)
			return !is, err
		}},
		{"Reach", "aft", func(f api.Fell, x args) (bool, api.Errno) {
			l, err := fell.Reach(f, x.a, x.from, x.to)
			return len(l) == 0, err
		}},
		{"Earliest", "abf", func(f api.Fell, x args) (bool, api.Errno) {
			day, is, err := fell.Earliest(f, x.a, x.b, x.from)
			return day == 0 && !is, err
		}},
		{"Path", "abf", func(f api.Fell, x args) (bool, api.Errno) {
			l, is, err := fell.Path(f, x.a, x.b, x.from)
			return len(l) == 0 && !is, err
		}},
		{"CheckPath", "abft", func(f api.Fell, x args) (bool, api.Errno) {
			return true, fell.CheckPath(f, x.a, x.b, x.from, x.to, []api.Pass{{Day: 100}})
		}},
		{"CheckPath of no path", "abft", func(f api.Fell, x args) (bool, api.Errno) {
			err := fell.CheckPath(f, x.a, x.b, x.from, x.to, []api.Pass{{Day: -1, Gate: -1}})
			if err == api.ErrPath {
				err = api.OK
			}
			return true, err
		}},
		{"Meeting", "abft", func(f api.Fell, x args) (bool, api.Errno) {
			day, at, is, err := fell.Meeting(f, x.a, x.b, x.from, x.to)
			return day == 0 && at == 0 && !is, err
		}},
		{"Ever", "a", func(f api.Fell, x args) (bool, api.Errno) {
			l, err := fell.Ever(f, x.a)
			return len(l) == 0, err
		}},
		{"Folds", "", func(f api.Fell, x args) (bool, api.Errno) {
			l, err := fell.Folds(f)
			return len(l) == 0, err
		}},
		{"Lanes", "ab!", func(f api.Fell, x args) (bool, api.Errno) {
			l, err := fell.Lanes(f, x.a, x.b)
			return len(l) == 0, err
		}},
		{"Shut", "ab!", func(f api.Fell, x args) (bool, api.Errno) {
			l, err := fell.Shut(f, x.a, x.b)
			return len(l) == 0, err
		}},
		{"Bridges", "", func(f api.Fell, x args) (bool, api.Errno) {
			l, err := fell.Bridges(f)
			return len(l) == 0, err
		}},
		{"Without", "g", func(f api.Fell, x args) (bool, api.Errno) {
			g, err := fell.Without(f, []int{x.gate})
			return g.Grazings == 0 && len(g.Gates) == 0, err
		}},
		{"Print", "", func(f api.Fell, x args) (bool, api.Errno) {
			s, err := fell.Print(f)
			return s == "", err
		}},
	}
}

// badArgs are arguments of which the fields that has names are not all right.
func badArgs(has string) []args {
	var l []args
	for _, field := range has {
		values := badDays
		if field == 'a' || field == 'b' || field == 'g' {
			values = badGrazings
		}
		for _, v := range values {
			x := goodArgs()
			switch field {
			case 'a':
				x.a = v
			case 'b':
				x.b = v
			case 'g':
				x.gate = v
			case 'f':
				x.from = v
			case 't':
				x.to = v
			case '!':
				x.a = x.b
			}
			l = append(l, x)
		}
		if field == 't' {
			for _, days := range [][2]int{{100, 99}, {1, 0}, {api.MaxDay, api.MaxDay - 1}, {api.MaxDay, 0}} {
				x := goodArgs()
				x.from, x.to = days[0], days[1]
				l = append(l, x)
			}
		}
	}
	return l
}

// P4.1 to P4.4: a fell that is not valid comes before every other error; with an error every other result is zero.
func TestInvalidArguments(t *testing.T) {
	for _, c := range calls() {
		if _, err := c.run(exampleFell(), goodArgs()); err != api.OK {
			t.Error(c.name, err)
		}
		bad := badArgs(c.has)
		for _, x := range bad {
			if zero, err := c.run(exampleFell(), x); !zero || err != api.ErrArg {
				t.Error(c.name, x, zero, err)
			}
		}
		for _, f := range badFells() {
			for _, x := range append(bad, goodArgs()) {
				if zero, err := c.run(f, x); !zero || err != api.ErrFell {
					t.Error(c.name, f, x, zero, err)
				}
			}
		}
	}
}

// P4.3: the same grazing twice, also if it does not exist.
func TestSameGrazings(t *testing.T) {
	for _, a := range append([]int{0, 1, 2, 3}, badGrazings...) {
		if l, err := fell.Lanes(exampleFell(), a, a); len(l) != 0 || err != api.ErrArg {
			t.Error(a, l, err)
		}
		if l, err := fell.Shut(exampleFell(), a, a); len(l) != 0 || err != api.ErrArg {
			t.Error(a, l, err)
		}
	}
}
