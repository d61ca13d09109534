package stray_test

import (
	"math/rand"
	"slices"
	"testing"

	"earmark/api"
	"earmark/ear"
	"earmark/knife"
	"earmark/register"
	"earmark/stray"
	"earmark/weather"
)

// threeFolds is a fell whose folds are {0, 2}, {1, 3} and {4}: the gate between 2 and 3 is never open.
func threeFolds() api.Fell {
	return api.Fell{Grazings: 5, Gates: []api.Gate{{A: 0, B: 2, From: 100, To: 200}, {A: 2, B: 3, From: 9, To: 9}, {A: 1, B: 3, From: 300, To: 20}}}
}

// onFold reports whether two grazings are on one fold.
func onFold(f api.Fell, a, b int) bool {
	at := map[int]bool{a: true}
	for range f.Grazings {
		for _, g := range f.Gates {
			if g.From != g.To && (at[g.A] || at[g.B]) {
				at[g.A], at[g.B] = true, true
			}
		}
	}
	return at[b]
}

func markOf(s string) api.Mark {
	m, _, err := ear.ParseMark(s)
	if err != api.OK {
		panic(s)
	}
	return m
}

// registerOf returns the register with these events, and checks that each of them can be appended.
func registerOf(t *testing.T, f api.Fell, b api.Budget, events ...api.Event) api.Register {
	t.Helper()
	r, err := register.New(f, b)
	for i, e := range events {
		e.No = i
		if err == api.OK {
			r, err = register.Append(r, e)
		}
	}
	if err != api.OK {
		t.Fatal(err)
	}
	return r
}

func admit(at, known int, m api.Mark, flock, grazing int) api.Event {
	return api.Event{Kind: api.AdmitE, At: at, Known: known, Mark: m, Flock: flock, Grazing: grazing}
}

func seen(m api.Mark, grazing int) api.Sighting {
	return api.Sighting{Grazing: grazing, Head: api.Head{Seen: m}}
}

// misread returns the valid marks that differ from m in exactly one place.
func misread(m api.Mark) []api.Mark {
	var l []api.Mark
	add := func(n api.Mark) {
		if n != m && ear.CheckMark(n) == api.OK {
			l = append(l, n)
		}
	}
	for _, far := range []bool{false, true} {
		for place := range 12 {
			for value := range 5 {
				n := m
				e := &n.Near
				if far {
					e = &n.Far
				}
				switch {
				case place == 0:
					e.Tip = value
				case place < 5:
					e.Upper[place-1] = value
				case place < 9:
					e.Lower[place-5] = value
				default:
					e.Holes[place-9] = value == 1
				}
				if place < 9 || value < 2 {
					add(n)
				}
			}
		}
	}
	return l
}

func looks(m, n api.Mark, b api.Budget) bool {
	is, err := knife.Looks(m, n, b)
	if err != api.OK {
		panic("knife.Looks returns an error")
	}
	return is
}

// optionsOf returns the options that a sighting should have, if so many flocks count.
func optionsOf(r api.Register, held []api.Held, flocks int, x api.Sighting) []api.Option {
	var l []api.Option
	for f := range flocks {
		wrong := 2
		for _, h := range held {
			if h.Flock != f || h.Rests || !onFold(r.Fell, h.Grazing, x.Grazing) {
				continue
			}
			if looks(h.Mark, x.Head.Seen, r.Budget) {
				wrong = 0
			}
			for _, n := range misread(x.Head.Seen) {
				if wrong == 2 && looks(h.Mark, n, r.Budget) {
					wrong = 1
				}
			}
		}
		if wrong < 2 {
			l = append(l, api.Option{Flock: f, Wrong: wrong})
		}
	}
	return l
}

// someMarks are marks many of which can be admitted beside each other, and some of which differ in few places.
func someMarks() []api.Mark {
	var l []api.Mark
	for _, s := range []string{
		"near: whole; far: whole",
		"near: upper key 1; far: whole",
		"near: upper key 2; far: whole",
		"near: upper key 1; far: forked",
		"near: cropped, upper key 1; far: forked",
		"near: slit; far: whole",
		"near: forked; far: whole",
		"near: forked; far: lower bit 0",
		"near: forked; far: lower key 0",
		"near: hole 1; far: lower bit 0",
		"near: upper bit 1; far: lower bit 0, lower bit 2",
		"near: upper bit 1; far: lower key 0, lower bit 2",
		"near: forked, upper key 1; far: hollowed, lower key 0, lower bit 2",
		"near: whole; far: hollowed, lower key 0, hole 2",
	} {
		l = append(l, markOf(s))
	}
	return l
}

// randomEvent returns an event that may or may not be possible.
func randomEvent(r *rand.Rand, x api.Register) api.Event {
	n := len(x.Events)
	kinds := [...]int{api.AdmitE, api.AdmitE, api.AdmitE, api.AdmitE, api.SellE, api.SplitE, api.RestE, api.ResumeE, api.MoveE}
	e := api.Event{No: n, Kind: kinds[r.Intn(len(kinds))], At: r.Intn(10), Known: r.Intn(2)}
	if n > 0 {
		e.Known += x.Events[n-1].Known
	}
	if e.Kind != api.AdmitE {
		e.Id = r.Intn(n + 1)
	}
	marks := someMarks()
	switch e.Kind {
	case api.AdmitE:
		e.Mark, e.Flock, e.Grazing = marks[r.Intn(len(marks))], r.Intn(5), r.Intn(x.Fell.Grazings)
	case api.SplitE:
		e.Mark, e.Flock = marks[r.Intn(len(marks))], r.Intn(5)
	case api.SellE:
		e.Flock = r.Intn(5)
	case api.MoveE:
		e.Grazing = r.Intn(x.Fell.Grazings)
	}
	return e
}

// someRegisters returns registers with many events and budgets of several sorts.
func someRegisters(r *rand.Rand) []api.Register {
	var l []api.Register
	for _, b := range []api.Budget{{}, {Weather: 1}, {Cuts: 1}, {Weather: 1, Cuts: 1}, {Weather: 2}, {}, {Weather: 1}} {
		x := api.Register{Fell: threeFolds(), Budget: b}
		for range 150 {
			if y, err := register.Append(x, randomEvent(r, x)); err == api.OK {
				x = y
			}
		}
		l = append(l, x)
	}
	return l
}

// changed returns what some changes within b make of m.
func changed(r *rand.Rand, m api.Mark, b api.Budget) api.Mark {
	for range b.Weather {
		steps, _ := weather.Steps(m.Near)
		if len(steps) > 0 && r.Intn(2) == 0 {
			m.Near, _ = weather.Apply(m.Near, steps[r.Intn(len(steps))])
		}
	}
	for range b.Cuts {
		cuts, _ := knife.Cuts(m.Far)
		if len(cuts) > 0 && r.Intn(2) == 0 {
			m.Far, _ = knife.Apply(m.Far, cuts[r.Intn(len(cuts))])
		}
	}
	return m
}

// P7.2, P7.14: the options of heads of all sorts, on many days.
func TestBuild(t *testing.T) {
	r := rand.New(rand.NewSource(81))
	found := map[int]int{}
	for _, x := range someRegisters(r) {
		for range 60 {
			at, known := r.Intn(12), r.Intn(x.Events[len(x.Events)-1].Known+3)
			held, err := register.State(x, at, known)
			if err != api.OK {
				t.Fatal(err)
			}
			missing := slices.Repeat([]int{r.Intn(65)}, r.Intn(7))
			m := someMarks()[r.Intn(len(someMarks()))]
			grazing := r.Intn(5)
			if len(held) > 0 && r.Intn(5) > 0 {
				h := held[r.Intn(len(held))]
				m, grazing = changed(r, h.Mark, x.Budget), h.Grazing
			}
			for range r.Intn(3) {
				m = misread(m)[r.Intn(len(misread(m)))]
			}
			s := seen(m, grazing)
			want := optionsOf(x, held, len(missing), s)
			c, err := stray.Build(x, missing, []api.Sighting{s}, at, known, 7)
			if len(want) == 0 {
				found[-1]++
				if !sameClaim(c, api.Claim{}) || err != api.ErrClaim {
					t.Fatal(x, s, at, known, c, err)
				}
				continue
			}
			if !sameClaim(c, api.Claim{Missing: missing, Strays: [][]api.Option{want}, Wrong: 7}) || err != api.OK {
				t.Fatal(x, s, at, known, c, err, want)
			}
			for _, o := range want {
				found[o.Wrong]++
			}
			if n := len(slices.DeleteFunc(want, func(o api.Option) bool { return o.Wrong > 0 })); n > 1 {
				t.Fatal("several flocks without a wrong reading", x, s, at, known, c)
			}
		}
	}
	if found[-1] < 50 || found[0] < 80 || found[1] < 50 {
		t.Error(found)
	}
}

// P7.14: what comes from a mark in use has an option of its flock, without a wrong reading if it was read rightly, and with at most one if it was read wrongly in one place.
func TestBuildFromMarks(t *testing.T) {
	r := rand.New(rand.NewSource(82))
	heads := 0
	for _, x := range someRegisters(r) {
		for _, at := range []int{3, 6, 20} {
			held, _ := register.State(x, at, api.MaxDay)
			for _, h := range held {
				if h.Rests {
					continue
				}
				truth := changed(r, h.Mark, x.Budget)
				wrong := misread(truth)[r.Intn(len(misread(truth)))]
				for g := range x.Fell.Grazings {
					if !onFold(x.Fell, g, h.Grazing) {
						continue
					}
					heads++
					c, err := stray.Build(x, make([]int, 5), []api.Sighting{seen(truth, g), seen(wrong, g)}, at, api.MaxDay, 0)
					if err != api.OK || !slices.Contains(c.Strays[0], api.Option{Flock: h.Flock}) {
						t.Fatal(x, h, truth, c, err)
					}
					if !slices.ContainsFunc(c.Strays[1], func(o api.Option) bool { return o.Flock == h.Flock && o.Wrong <= 1 }) {
						t.Fatal(x, h, wrong, c)
					}
				}
			}
		}
	}
	if heads < 100 {
		t.Error(heads)
	}
}

// P7.2: what counts of a register: flocks, folds, days, what was known, marks that rest, and the least of several marks of a flock.
func TestBuildExamples(t *testing.T) {
	key, other := markOf("near: upper key 1; far: whole"), markOf("near: upper key 1; far: forked")
	bit := markOf("near: whole; far: lower bit 0")
	r := registerOf(t, threeFolds(), api.Budget{},
		admit(10, 50, key, 1, 0),
		admit(10, 50, other, 2, 2),
		admit(10, 50, key, 3, 1),
		admit(20, 60, bit, 2, 0),
		api.Event{Kind: api.RestE, Id: 0, At: 30, Known: 70},
		api.Event{Kind: api.SellE, Id: 1, Flock: 0, At: 40, Known: 80},
		admit(45, 80, markOf("near: upper key 1; far: slit"), 0, 2))
	type options = []api.Option
	for n, x := range []struct {
		s         api.Sighting
		flocks    int
		at, known int
		want      options
	}{
		{seen(key, 0), 4, 10, 50, options{{Flock: 1}, {Flock: 2, Wrong: 1}}},
		{seen(key, 2), 4, 10, 50, options{{Flock: 1}, {Flock: 2, Wrong: 1}}},
		{seen(other, 0), 4, 10, 50, options{{Flock: 1, Wrong: 1}, {Flock: 2}}},
		{seen(key, 1), 4, 10, 50, options{{Flock: 3}}},
		{seen(key, 3), 4, 10, 50, options{{Flock: 3}}},
		{seen(key, 4), 4, 10, 50, nil},
		{seen(key, 0), 2, 10, 50, options{{Flock: 1}}},
		{seen(key, 0), 1, 10, 50, nil},
		{seen(key, 0), 0, 10, 50, nil},
		{seen(key, 0), 64, 10, 50, options{{Flock: 1}, {Flock: 2, Wrong: 1}}},
		{seen(key, 0), 4, 9, 50, nil},
		{seen(key, 0), 4, 10, 49, nil},
		{seen(key, 0), 4, 30, 69, options{{Flock: 1}, {Flock: 2, Wrong: 1}}},
		{seen(key, 0), 4, 30, 70, options{{Flock: 2, Wrong: 1}}},
		{seen(key, 0), 4, 29, 70, options{{Flock: 1}, {Flock: 2, Wrong: 1}}},
		{seen(key, 0), 4, 40, 79, options{{Flock: 2, Wrong: 1}}},
		{seen(key, 0), 4, 40, 80, options{{Flock: 0, Wrong: 1}}},
		{seen(bit, 2), 4, 20, 60, options{{Flock: 2}}},
		{seen(markOf("near: whole; far: whole"), 2), 4, 20, 60, options{{Flock: 1, Wrong: 1}, {Flock: 2, Wrong: 1}}},
		{seen(markOf("near: slit; far: slit"), 2), 4, 20, 60, nil},
		// Two marks of the flock 0: one as it was seen, one not.
		{seen(other, 2), 4, 45, 80, options{{Flock: 0}}},
		{seen(markOf("near: upper key 1; far: hollowed"), 2), 4, 45, 80, options{{Flock: 0, Wrong: 1}}},
	} {
		x.s.Key, x.s.Day, x.s.Index = api.Sheetkey{Gathering: -1, Clerk: highest, Part: 99}, lowest, -5
		missing := slices.Repeat([]int{5}, x.flocks)
		c, err := stray.Build(r, missing, []api.Sighting{x.s}, x.at, x.known, 3)
		if len(x.want) == 0 {
			if !sameClaim(c, api.Claim{}) || err != api.ErrClaim {
				t.Error(n, c, err)
			}
			continue
		}
		if !sameClaim(c, api.Claim{Missing: missing, Strays: [][]api.Option{x.want}, Wrong: 3}) || err != api.OK {
			t.Error(n, c, err, x.want)
		}
	}
}

// P7.2: several strays, in order, and none at all; the claim has memory of its own.
func TestBuildMany(t *testing.T) {
	r := registerOf(t, threeFolds(), api.Budget{Weather: 1}, admit(0, 0, markOf("near: forked; far: whole"), 0, 0), admit(0, 0, markOf("near: hole 1; far: whole"), 1, 4))
	missing := []int{3, 64}
	l := []api.Sighting{seen(markOf("near: cropped; far: whole"), 2), seen(markOf("near: hole 1; far: whole"), 4), seen(markOf("near: forked; far: slit"), 0)}
	want := claimOf(65536, []int{3, 64}, []int{0, 0}, []int{1, 0}, []int{0, 1})
	kept := slices.Clone(l)
	c, err := stray.Build(r, missing, l, api.MaxDay, api.MaxDay, 65536)
	if !sameClaim(c, want) || err != api.OK || !slices.Equal(l, kept) {
		t.Fatal(c, err)
	}
	c.Missing[0] = -1
	if missing[0] != 3 {
		t.Error("the claim shares memory")
	}
	c, err = stray.Build(r, nil, nil, 0, 0, 0)
	if !sameClaim(c, api.Claim{}) || err != api.OK {
		t.Error(c, err)
	}
	c, err = stray.Build(r, slices.Repeat([]int{64}, 64), slices.Repeat(l[:1], 64), 0, 0, 1)
	if len(c.Missing) != 64 || len(c.Strays) != 64 || c.Wrong != 1 || err != api.OK || stray.Check(c) != api.OK {
		t.Error(c, err)
	}
}

// buildCall is a call of Build.
type buildCall struct {
	r         api.Register
	missing   []int
	l         []api.Sighting
	at, known int
	wrong     int
}

// fault spoils a call, so that Build returns an error.
type fault struct {
	spoil func(x *buildCall)
	want  api.Errno
}

// faults returns groups of faults, in the order in which Build finds them. Within a group each one is spoilt alone.
func faults() [][]fault {
	whole := markOf("near: whole; far: whole")
	lists := func(want api.Errno, l ...[]api.Sighting) []fault {
		var all []fault
		for _, some := range l {
			all = append(all, fault{func(x *buildCall) { x.l = append(slices.Clone(x.l), some...) }, want})
		}
		return all
	}
	numbers := func(field func(x *buildCall) *int, l ...int) []fault {
		var all []fault
		for _, n := range l {
			all = append(all, fault{func(x *buildCall) { *field(x) = n }, api.ErrArg})
		}
		return all
	}
	missing := func(l ...[]int) []fault {
		var all []fault
		for _, some := range l {
			all = append(all, fault{func(x *buildCall) { x.missing = some }, api.ErrClaim})
		}
		return all
	}
	badHead, badGrazing, both := seen(api.Mark{Near: api.Ear{Tip: 5}}, 0), seen(whole, 5), seen(api.Mark{Far: api.Ear{Tip: -1}}, 5)
	oldHead := seen(whole, 0)
	oldHead.Head.Teeth = 5
	return [][]fault{
		{{func(x *buildCall) { x.r.Fell.Grazings = 0 }, api.ErrFell}, {func(x *buildCall) { x.r.Fell.Grazings = lowest }, api.ErrFell}},
		{{func(x *buildCall) { x.r.Budget.Weather = 4 }, api.ErrBudget}},
		{{func(x *buildCall) { x.r.Events = append(slices.Clone(x.r.Events), x.r.Events[0]) }, api.ErrRegister}},
		missing(make([]int, 65), []int{-1}, []int{3, 65}, []int{0, highest}, []int{lowest}),
		append(lists(api.ErrHead, []api.Sighting{badHead}, []api.Sighting{oldHead}, []api.Sighting{both}, []api.Sighting{badHead, badGrazing}),
			lists(api.ErrArg, []api.Sighting{badGrazing}, []api.Sighting{badGrazing, badHead}, []api.Sighting{seen(whole, -1)}, []api.Sighting{seen(whole, highest)})...),
		lists(api.ErrLimit, slices.Repeat([]api.Sighting{seen(whole, 0)}, 64), slices.Repeat([]api.Sighting{seen(whole, 4)}, 200)),
		numbers(func(x *buildCall) *int { return &x.at }, lowest, -1, 1048577, highest),
		numbers(func(x *buildCall) *int { return &x.known }, lowest, -1, 1048577, highest),
		numbers(func(x *buildCall) *int { return &x.wrong }, lowest, -1, 65537, highest),
		lists(api.ErrClaim, []api.Sighting{seen(whole, 4)}, []api.Sighting{seen(markOf("near: cropped; far: forked"), 0)}),
	}
}

// P7.2: the errors, in their order: each one alone, and with each later one.
func TestBuildErrors(t *testing.T) {
	whole := markOf("near: whole; far: whole")
	r := registerOf(t, threeFolds(), api.Budget{}, admit(0, 0, whole, 1, 0))
	groups := faults()
	for i, group := range groups {
		for n, x := range group {
			call := func(later fault) {
				t.Helper()
				y := buildCall{r, []int{1, 1}, []api.Sighting{seen(whole, 2)}, 5, 5, 1}
				later.spoil(&y)
				x.spoil(&y)
				if c, err := stray.Build(y.r, y.missing, y.l, y.at, y.known, y.wrong); !sameClaim(c, api.Claim{}) || err != x.want {
					t.Error(i, n, c, err, x.want)
				}
			}
			call(fault{func(*buildCall) {}, api.OK})
			for _, other := range groups[i+1:] {
				for _, later := range other {
					call(later)
				}
			}
		}
	}
}

// P7.2, P7.14: a full register and as many strays as there may be.
func TestBuildLarge(t *testing.T) {
	r := rand.New(rand.NewSource(83))
	f := api.Fell{Grazings: 16}
	for g := range 12 {
		f.Gates = append(f.Gates, api.Gate{A: g, B: g + 3, From: 1, To: 2})
	}
	x := api.Register{Fell: f}
	for len(x.Events) < 256 {
		near, _ := ear.FromCode(r.Intn(ear.Count()))
		far, _ := ear.FromCode(r.Intn(ear.Count()))
		x.Events = append(x.Events, api.Event{No: len(x.Events), Kind: api.AdmitE, Mark: api.Mark{Near: near, Far: far}, Flock: r.Intn(64), Grazing: r.Intn(16)})
	}
	held, err := register.State(x, 0, 0)
	if err != api.OK {
		t.Fatal(err)
	}
	var l []api.Sighting
	for len(l) < 64 {
		h := held[r.Intn(256)]
		m := h.Mark
		if len(l)%2 > 0 {
			m = misread(m)[r.Intn(5)]
		}
		l = append(l, seen(m, h.Grazing))
	}
	c, err := stray.Build(x, make([]int, 64), l, 0, 0, 9)
	if err != api.OK || len(c.Strays) != 64 {
		t.Fatal(c, err)
	}
	for i, options := range c.Strays {
		if want := optionsOf(x, held, 64, l[i]); !slices.Equal(options, want) {
			t.Error(i, options, want)
		}
	}
}
