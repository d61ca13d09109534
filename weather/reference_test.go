package weather_test

import (
	"slices"
	"sync"
	"testing"

	"earmark/api"
	"earmark/ear"
	"earmark/weather"
)

// The tests compare the package with a plain reading of the chapter: an ear as its short notation, in which a step changes bytes, and a table of what all steps make of all ears.

// notations are those of all well-formed steps, in the order of the steps.
var notations = []string{
	"frost",
	"tear upper 0", "tear upper 1", "tear upper 2", "tear lower 0", "tear lower 1", "tear lower 2",
	"run upper 0", "run upper 1", "run lower 0", "run lower 1",
	"close 0", "close 1", "close 2",
	"heal",
	"shut upper 0", "shut upper 1", "shut upper 2", "shut upper 3", "shut lower 0", "shut lower 1", "shut lower 2", "shut lower 3",
	"wear upper 0", "wear upper 1", "wear upper 2", "wear upper 3", "wear lower 0", "wear lower 1", "wear lower 2", "wear lower 3",
}

// steps are the well-formed steps in their order.
var steps = []api.Step{
	{Kind: 1},
	{Kind: 2}, {Kind: 2, At: 1}, {Kind: 2, At: 2}, {Kind: 2, Edge: 1}, {Kind: 2, Edge: 1, At: 1}, {Kind: 2, Edge: 1, At: 2},
	{Kind: 3}, {Kind: 3, At: 1}, {Kind: 3, Edge: 1}, {Kind: 3, Edge: 1, At: 1},
	{Kind: 4}, {Kind: 4, At: 1}, {Kind: 4, At: 2},
	{Kind: 5},
	{Kind: 6}, {Kind: 6, At: 1}, {Kind: 6, At: 2}, {Kind: 6, At: 3}, {Kind: 6, Edge: 1}, {Kind: 6, Edge: 1, At: 1}, {Kind: 6, Edge: 1, At: 2}, {Kind: 6, Edge: 1, At: 3},
	{Kind: 7}, {Kind: 7, At: 1}, {Kind: 7, At: 2}, {Kind: 7, At: 3}, {Kind: 7, Edge: 1}, {Kind: 7, Edge: 1, At: 1}, {Kind: 7, Edge: 1, At: 2}, {Kind: 7, Edge: 1, At: 3},
}

// make1 returns what a well-formed step makes of an ear in short notation; "" if it does not apply.
func make1(short string, s api.Step) string {
	b := []byte(short)
	edge := b[1+4*s.Edge : 5+4*s.Edge]
	holes := b[9:12]
	switch s.Kind {
	case 1:
		if b[0] == 'c' {
			return ""
		}
		b[0], b[4], b[8] = 'c', '.', '.'
	case 2:
		if holes[s.At] != 'o' || edge[s.At+1] != '.' || s.At > 0 && edge[s.At-1] != '.' {
			return ""
		}
		holes[s.At] = '.'
		if edge[s.At] == '.' {
			edge[s.At] = 'b'
		} else {
			edge[s.At] = 'k'
		}
	case 3:
		if edge[s.At] == '.' || edge[s.At+2] == '.' {
			return ""
		}
		copy(edge[s.At:], ".k.")
	case 4:
		if holes[s.At] != 'o' {
			return ""
		}
		holes[s.At] = '.'
	case 5:
		if b[0] != 's' {
			return ""
		}
		b[0] = 'w'
	case 6, 7:
		if edge[s.At] != 'n' {
			return ""
		}
		edge[s.At] = '.'
		if s.Kind == 7 {
			edge[s.At] = 'b'
		}
	}
	return string(b)
}

// world is what all steps make of all valid ears, each of which stands for its code.
type world struct {
	ears   []api.Ear
	made   [][]int // made[e][i]: of e by steps[i]; -1 if it does not apply
	next   [][]int // without repetitions, increasing
	before [][]int
}

var all = sync.OnceValue(func() world {
	var w world
	codes := map[string]int{}
	var shorts []string
	for n := range ear.Count() {
		e, _ := ear.FromCode(n)
		s, _ := ear.Short(e)
		w.ears = append(w.ears, e)
		shorts = append(shorts, s)
		codes[s] = n
	}
	w.before = make([][]int, len(shorts))
	for n, short := range shorts {
		made := make([]int, len(steps))
		var next []int
		for i, s := range steps {
			made[i] = -1
			if x := make1(short, s); x != "" {
				code, ok := codes[x]
				if !ok {
					panic("a step makes " + x + " of " + short)
				}
				made[i] = code
				next = append(next, code)
			}
		}
		slices.Sort(next)
		next = slices.Compact(next)
		for _, x := range next {
			w.before[x] = append(w.before[x], n)
		}
		w.made = append(w.made, made)
		w.next = append(w.next, next)
	}
	return w
})

// within returns how few goes along the lists of beside lead from n to other ears, if at most k do.
func within(n, k int, beside [][]int) map[int]int {
	goes := map[int]int{n: 0}
	found := []int{n}
	for i := range k {
		var more []int
		for _, x := range found {
			for _, y := range beside[x] {
				if _, ok := goes[y]; !ok {
					goes[y] = i + 1
					more = append(more, y)
				}
			}
		}
		found = more
	}
	return goes
}

// listOf returns the ears of a set of codes in their order.
func listOf(set map[int]int) []api.Ear {
	var codes []int
	for n := range set {
		codes = append(codes, n)
	}
	slices.Sort(codes)
	var l []api.Ear
	for _, n := range codes {
		l = append(l, all().ears[n])
	}
	return l
}

func codeOf(e api.Ear) int {
	n, err := ear.Code(e)
	if err != api.OK {
		panic("not a valid ear")
	}
	return n
}

// words returns the ear with this description.
func words(s string) api.Ear {
	e, _, err := ear.ParseWords(s)
	if err != api.OK {
		panic(s)
	}
	return e
}

func markOf(s string) api.Mark {
	m, _, err := ear.ParseMark(s)
	if err != api.OK {
		panic(s)
	}
	return m
}

func stepOf(s string) api.Step { return steps[slices.Index(notations, s)] }

// every returns each n-th valid ear, from the first one on.
func every(n int) []api.Ear {
	var l []api.Ear
	for i := 0; i < ear.Count(); i += n {
		l = append(l, all().ears[i])
	}
	return l
}

// rich are ears to which many steps apply, of which many make them, or from which many ways lead to one ear.
func rich() []api.Ear {
	return []api.Ear{
		words("whole"),
		words("cropped"),
		words("slit, upper notch 0, upper notch 3, lower notch 1, lower notch 3, hole 0, hole 1, hole 2"),
		words("slit, upper notch 1, upper notch 3, lower notch 0, lower notch 2, hole 0, hole 1, hole 2"),
		words("cropped, upper key 1, lower key 1"),
		words("cropped, upper notch 0, upper notch 2, lower bit 0, lower key 2, hole 1, hole 2"),
		words("forked, upper key 2, lower bit 1, hole 2"),
		words("hollowed, upper notch 0, upper notch 2, hole 0"),
		words("upper notch 1, hole 1"),
		words("upper notch 0, upper bit 2, lower key 1, lower notch 3"),
	}
}

// badEars are ears that are not valid.
func badEars() []api.Ear {
	return []api.Ear{
		{Tip: -1},
		{Tip: 5},
		{Tip: 1<<63 - 1},
		{Upper: [4]int{4}},
		{Lower: [4]int{0, 0, -1 << 63}},
		{Upper: [4]int{1, 1}},
		{Lower: [4]int{0, 2, 3}},
		{Tip: api.Cropped, Upper: [4]int{0, 0, 0, 1}},
		{Tip: api.Hollowed, Lower: [4]int{0, 0, 0, 3}},
	}
}

// badLimits are no limits.
var badLimits = []int{-1 << 63, -1, 5, 6, 1 << 32, 1<<63 - 1}

// badSteps are steps that are not well-formed.
func badSteps() []api.Step {
	var l []api.Step
	odd := []int{-1 << 63, -1, 0, 1, 2, 3, 4, 5, 1 << 32, 1<<63 - 1}
	for _, kind := range []int{-1 << 63, -1, 0, 1, 2, 3, 4, 5, 6, 7, 8, 1 << 32, 1<<63 - 1} {
		for _, edge := range odd {
			for _, at := range odd {
				if s := (api.Step{Kind: kind, Edge: edge, At: at}); !slices.Contains(steps, s) {
					l = append(l, s)
				}
			}
		}
	}
	return l
}

// The table of the tests is that of the chapter: the steps are in their order, and the examples are so.
func TestReference(t *testing.T) {
	if len(steps) != 31 || len(notations) != 31 || !slices.IsSortedFunc(steps, compareSteps) {
		t.Fatal("steps")
	}
	e := words("upper notch 1, hole 1")
	if got := all().made[codeOf(e)][slices.Index(notations, "tear upper 1")]; all().ears[got] != words("upper key 1") {
		t.Error(all().ears[got])
	}
}

func compareSteps(a, b api.Step) int {
	return slices.Compare([]int{a.Kind, a.Edge, a.At}, []int{b.Kind, b.Edge, b.At})
}

func compareWays(a, b []api.Step) int {
	if len(a) != len(b) {
		return len(a) - len(b)
	}
	return slices.CompareFunc(a, b, compareSteps)
}

// P2.1 to P2.4: no function accepts an ear that is not valid, and this error comes before that of a step or of a limit; with an error every other result is zero.
func TestInvalidEars(t *testing.T) {
	good := words("slit, hole 1")
	for i, bad := range badEars() {
		for _, k := range []int{0, 1, 4, 5, -1} {
			checkInvalid(t, bad, good, k, api.ErrEar)
			checkInvalid(t, bad, bad, k, api.ErrEar)
		}
		if l, err := weather.Steps(bad); len(l) != 0 || err != api.ErrEar {
			t.Error(i, "Steps", l, err)
		}
		for _, s := range []api.Step{stepOf("frost"), stepOf("shut upper 0"), {}, {Kind: 99}} {
			if e, err := weather.Apply(bad, s); e != (api.Ear{}) || err != api.ErrEar {
				t.Error(i, "Apply", e, err)
			}
			if e, n, err := weather.ApplyAll(bad, []api.Step{stepOf("frost"), s}); e != (api.Ear{}) || n != 0 || err != api.ErrEar {
				t.Error(i, "ApplyAll", e, n, err)
			}
		}
		if e, n, err := weather.ApplyAll(bad, nil); e != (api.Ear{}) || n != 0 || err != api.ErrEar {
			t.Error(i, "ApplyAll", e, n, err)
		}
		if l, err := weather.Next(bad); len(l) != 0 || err != api.ErrEar {
			t.Error(i, "Next", l, err)
		}
		if l, err := weather.Before(bad); len(l) != 0 || err != api.ErrEar {
			t.Error(i, "Before", l, err)
		}
		if is, err := weather.Stable(bad); is || err != api.ErrEar {
			t.Error(i, "Stable", is, err)
		}
	}
}

// P2.3 and P2.4
func TestInvalidLimits(t *testing.T) {
	for _, k := range badLimits {
		checkInvalid(t, words("slit, hole 1"), words("whole"), k, api.ErrArg)
		checkInvalid(t, words("cropped"), words("cropped"), k, api.ErrArg)
	}
}

// checkInvalid checks that the functions of two ears and a limit return an error, in whichever order the ears are, and nothing else.
func checkInvalid(t *testing.T, bad, other api.Ear, k int, want api.Errno) {
	t.Helper()
	if l, err := weather.Closure(bad, k); len(l) != 0 || err != want {
		t.Error("Closure", bad, k, l, err)
	}
	if l, err := weather.Origins(bad, k); len(l) != 0 || err != want {
		t.Error("Origins", bad, k, l, err)
	}
	for _, p := range [][2]api.Ear{{bad, other}, {other, bad}} {
		if n, ok, err := weather.Distance(p[0], p[1], k); n != 0 || ok || err != want {
			t.Error("Distance", p, k, n, ok, err)
		}
		if l, ok, err := weather.Way(p[0], p[1], k); len(l) != 0 || ok || err != want {
			t.Error("Way", p, k, l, ok, err)
		}
		if e, ok, err := weather.Meet(p[0], p[1], k); e != (api.Ear{}) || ok || err != want {
			t.Error("Meet", p, k, e, ok, err)
		}
	}
}
