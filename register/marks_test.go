package register_test

import (
	"slices"
	"testing"

	"earmark/api"
	"earmark/knife"
	"earmark/register"
)

// P5.3, against the plain reading.
func TestStateGetAndOwnedBy(t *testing.T) {
	for _, r := range someRegisters() {
		for _, known := range knownDays(r) {
			for _, day := range []int{0, 3, 4, 8, someDays - 1, api.MaxDay} {
				want := stateOf(r, day, known)
				got, err := register.State(r, day, known)
				if !slices.Equal(got, want.list()) || err != api.OK {
					t.Fatal(r, day, known, got, err, want)
				}
				for id := day % 3; id < len(r.Events)+2; id += 3 {
					h, ok := want[id]
					wanted := api.ErrUnknown
					if ok {
						wanted = api.OK
					}
					if got, err := register.Get(r, id, day, known); got != h || err != wanted {
						t.Fatal(r, id, day, known, got, err, h)
					}
				}
				for flock := range 5 {
					l := want.ids(func(h api.Held) bool { return h.Flock == flock })
					if got, err := register.OwnedBy(r, flock, day, known); !slices.Equal(got, l) || err != api.OK {
						t.Fatal(r, flock, day, known, got, err, l)
					}
				}
			}
		}
	}
}

// P5.3: what was known when.
func TestStateExamples(t *testing.T) {
	r := registerOf(t, folds3(), budget(1, 0),
		at(10, 50, admit(markW, 1, 0)),
		at(30, 50, sell(0, 2)),
		at(20, 60, move(0, 4)),
		at(20, 60, split(0, markOf("near: upper bit 2; far: upper bit 2"), 3)),
		at(25, 70, rest(0)))
	second := api.Held{Id: 3, Mark: markOf("near: upper bit 2; far: upper bit 2"), Flock: 3, Grazing: 4}
	for _, x := range []struct {
		day, known int
		want       []api.Held
	}{
		{20, 40, nil},
		{20, 49, nil},
		{9, 1048576, nil},
		{20, 50, []api.Held{{Flock: 1, From: -1}}},
		{10, 50, []api.Held{{Flock: 1, From: -1}}},
		{29, 59, []api.Held{{Flock: 1, From: -1}}},
		{30, 59, []api.Held{{Flock: 2, From: -1}}},
		{1048576, 59, []api.Held{{Flock: 2, From: -1}}},
		{19, 60, []api.Held{{Flock: 1, From: -1}}},
		{20, 60, []api.Held{{Flock: 1, Grazing: 4, From: -1}, second}},
		{25, 69, []api.Held{{Flock: 1, Grazing: 4, From: -1}, second}},
		{25, 70, []api.Held{{Flock: 1, Grazing: 4, Rests: true, From: -1}, second}},
		{30, 1048576, []api.Held{{Flock: 2, Grazing: 4, Rests: true, From: -1}, second}},
	} {
		if got, err := register.State(r, x.day, x.known); !slices.Equal(got, x.want) || err != api.OK {
			t.Error(x, got, err)
		}
	}
	if h, err := register.Get(r, 3, 20, 60); h != second || err != api.OK {
		t.Error(h, err)
	}
	for _, id := range []int{1, 2, 4, 5, 255, 256, 4095} {
		if h, err := register.Get(r, id, 1048576, 1048576); h != (api.Held{}) || err != api.ErrUnknown {
			t.Error(id, h, err)
		}
	}
	for flock, want := range map[int][]int{0: nil, 1: {0}, 2: nil, 3: {3}, 63: nil} {
		if l, err := register.OwnedBy(r, flock, 29, 70); !slices.Equal(l, want) || err != api.OK {
			t.Error(flock, l, err)
		}
	}
}

// P5.4, against the plain reading.
func TestFindCandidatesAndClashes(t *testing.T) {
	found := [3]int{}
	for i, r := range someRegisters() {
		d := dice(300 + i)
		for range 60 {
			m := someMarks()[d.throw(len(someMarks()))]
			day, grazing, known := d.throw(someDays+1), d.throw(5), knownDays(r)[d.throw(len(knownDays(r)))]
			s := stateOf(r, day, known)
			var same, like []int
			for _, id := range s.inUse(r, grazing) {
				if s[id].Mark == m {
					same = append(same, id)
				}
				if looks, _ := knife.Looks(s[id].Mark, m, r.Budget); looks {
					like = append(like, id)
				}
			}
			alike := s.rivals(r, m, grazing)
			found[0], found[1], found[2] = found[0]+len(same), found[1]+len(like), found[2]+len(alike)
			if id, is, err := register.Find(r, m, grazing, day, known); is != (len(same) == 1) || is && id != same[0] || !is && id != 0 || err != api.OK {
				t.Fatal(r, m, grazing, day, known, id, is, err, same)
			}
			if l, err := register.Candidates(r, m, grazing, day, known); !slices.Equal(l, like) || err != api.OK {
				t.Fatal(r, m, grazing, day, known, l, err, like)
			}
			if l, err := register.Clashes(r, m, grazing, day, known); !slices.Equal(l, alike) || err != api.OK {
				t.Fatal(r, m, grazing, day, known, l, err, alike)
			}
		}
	}
	if min(found[0], found[1], found[2]) < 25 {
		t.Error(found)
	}
}

// P5.4: looking like a mark is not the same as clashing with it, and only marks in use on the fold are considered.
func TestFindCandidatesAndClashesExamples(t *testing.T) {
	cropped, other := markOf("near: cropped; far: whole"), markOf("near: whole; far: upper bit 3")
	r := registerOf(t, folds3(), budget(1, 0),
		at(10, 20, admit(markK, 1, 0)),
		at(10, 20, admit(markK, 2, 2)),
		at(10, 30, admit(other, 2, 1)),
		at(15, 30, rest(2)),
		at(18, 30, move(1, 4)))
	for _, x := range []struct {
		m                   api.Mark
		grazing, day, known int
		id                  int
		is                  bool
		like, alike         []int
	}{
		{markK, 0, 10, 30, 0, true, []int{0}, []int{0}},
		{markK, 1, 10, 30, 0, true, []int{0}, []int{0}},
		{markK, 2, 10, 30, 1, true, []int{1}, []int{1}},
		{markK, 3, 17, 30, 1, true, []int{1}, []int{1}},
		{markK, 3, 18, 30, 0, false, nil, nil},
		{markK, 4, 18, 30, 1, true, []int{1}, []int{1}},
		{markK, 4, 18, 29, 0, false, nil, nil},
		{markK, 0, 9, 30, 0, false, nil, nil},
		{markK, 0, 10, 19, 0, false, nil, nil},
		{markC, 0, 20, 30, 0, false, []int{0}, []int{0}},
		{markOf("near: slit, upper key 1; far: whole"), 0, 20, 30, 0, false, nil, []int{0}},
		{other, 0, 14, 30, 2, true, []int{2}, []int{2}},
		{other, 0, 15, 30, 0, false, nil, nil},
		{other, 0, 14, 29, 0, false, nil, nil},
		{markOf("near: whole; far: upper bit 3, upper notch 1"), 1, 14, 30, 0, false, nil, []int{2}},
		{cropped, 0, 14, 30, 0, false, nil, nil},
	} {
		if id, is, err := register.Find(r, x.m, x.grazing, x.day, x.known); id != x.id || is != x.is || err != api.OK {
			t.Error(x, id, is, err)
		}
		if l, err := register.Candidates(r, x.m, x.grazing, x.day, x.known); !slices.Equal(l, x.like) || err != api.OK {
			t.Error(x, l, err)
		}
		if l, err := register.Clashes(r, x.m, x.grazing, x.day, x.known); !slices.Equal(l, x.alike) || err != api.OK {
			t.Error(x, l, err)
		}
	}
}

// suggested returns what Suggest should return for a mark that is in use in a state.
func suggested(r api.Register, s held, id, most int) (api.Mark, []api.Change, bool, api.Errno) {
	var keep []api.Mark
	for _, x := range s.inUse(r, s[id].Grazing) {
		keep = append(keep, s[x].Mark)
	}
	return knife.Overmark(s[id].Mark, keep, r.Budget, most)
}

func checkSuggest(t *testing.T, r api.Register, id, day, known, most int, want api.Mark, way []api.Change, ok bool, failed api.Errno) {
	t.Helper()
	m, l, is, err := register.Suggest(r, id, day, known, most)
	if m != want || !slices.Equal(l, way) || is != ok || err != failed {
		t.Fatal(id, day, known, most, m, l, is, err, want, way, ok, failed)
	}
}

// P5.4 and P5.13: against the plain reading; what is suggested can be split off on this day, unless a later event stands in the way.
func TestSuggest(t *testing.T) {
	found := map[api.Errno]int{}
	for i, r := range someRegisters() {
		if r.Budget.Weather+r.Budget.Cuts > 1 {
			continue
		}
		d := dice(400 + i)
		now := r.Events[len(r.Events)-1].Known
		for range 30 {
			day, id, most := d.throw(someDays+2), d.throw(len(r.Events)+1), 1+d.throw(2)
			known := now + d.throw(2)*(api.MaxDay-now)
			s := stateOf(r, day, known)
			h, is := s[id]
			if !is || h.Rests {
				want := api.ErrUnknown
				if is {
					want = api.ErrOwner
				}
				found[want]++
				checkSuggest(t, r, id, day, known, most, api.Mark{}, nil, false, want)
				continue
			}
			m, l, ok, failed := suggested(r, s, id, most)
			checkSuggest(t, r, id, day, known, most, m, l, ok, failed)
			if failed != api.OK || !ok {
				continue
			}
			_, err := register.Try(r, number(len(r.Events), at(day, known, split(id, m, h.Flock+1))))
			last := !slices.ContainsFunc(r.Events, func(e api.Event) bool { return e.At > day })
			if err != api.OK && (err != api.ErrOrder || last) {
				t.Fatal(r, id, day, known, m, err)
			}
			found[err]++
		}
	}
	for _, err := range []api.Errno{api.OK, api.ErrUnknown, api.ErrOwner} {
		if found[err] < 10 {
			t.Error(found)
		}
	}
}

// P5.4 and P5.13: a later event that stands in the way of what is suggested.
func TestSuggestExamples(t *testing.T) {
	r := registerOf(t, folds3(), budget(1, 0),
		at(10, 0, admit(markW, 1, 0)),
		at(12, 0, admit(markOf("near: whole; far: lower bit 0"), 2, 1)),
		at(12, 0, admit(markOf("near: whole; far: lower key 0"), 2, 2)),
		at(14, 0, rest(0)))
	far := func(s string) api.Mark { return markOf("near: whole; far: " + s) }
	checkSuggest(t, r, 0, 10, 0, 0, api.Mark{}, nil, false, api.OK)
	checkSuggest(t, r, 0, 10, 0, 1, far("lower bit 2"), way("far cut lower 2 bit"), true, api.OK)
	checkSuggest(t, r, 1, 12, 0, 1, far("lower bit 0, lower bit 2"), way("far cut lower 2 bit"), true, api.OK)
	checkSuggest(t, r, 0, 14, 0, 1, api.Mark{}, nil, false, api.ErrOwner)
	checkSuggest(t, r, 3, 14, 0, 1, api.Mark{}, nil, false, api.ErrUnknown)
	checkSuggest(t, r, 0, 9, 0, 1, api.Mark{}, nil, false, api.ErrUnknown)
	checkSuggest(t, r, 4095, 9, 0, 1, api.Mark{}, nil, false, api.ErrUnknown)
	for _, most := range []int{least, -1, 3, most} {
		checkSuggest(t, r, 0, 10, 0, most, api.Mark{}, nil, false, api.ErrArg)
		checkSuggest(t, r, 0, 14, 0, most, api.Mark{}, nil, false, api.ErrOwner)
		checkSuggest(t, r, 4, 14, 0, most, api.Mark{}, nil, false, api.ErrUnknown)
	}
	checkTry(t, r, number(4, at(10, 0, split(0, far("lower bit 2"), 2))), api.Refusal{}, api.OK)
	r = with(r, number(4, at(13, 0, admit(far("lower bit 2, lower notch 0"), 3, 1))))
	if err := register.Check(r); err != api.OK {
		t.Error(err)
	}
	checkSuggest(t, r, 0, 12, 0, 1, far("lower bit 2"), way("far cut lower 2 bit"), true, api.OK)
	checkTry(t, r, number(5, at(12, 0, split(0, far("lower bit 2"), 2))), api.Refusal{}, api.ErrOrder)
	m, l, ok, err := suggested(r, stateOf(r, 13, 0), 1, 2)
	checkSuggest(t, r, 1, 13, 0, 2, m, l, ok, err)
}

// P5.4: more marks on a fold than Overmark takes.
func TestSuggestAmongManyMarks(t *testing.T) {
	var events []api.Event
	for i := range 17 {
		m := api.Mark{}
		m.Near.Tip, m.Far.Tip = i%4, i/4%4
		if i == 16 {
			m.Near.Holes[0] = true
		}
		events = append(events, at(i, 0, admit(m, i, i%2)))
	}
	r := numbered(budget(0, 0), events...)
	checkSuggest(t, r, 0, 16, 0, 2, api.Mark{}, nil, false, api.ErrLimit)
	m, l, ok, err := suggested(r, stateOf(r, 15, 0), 0, 2)
	if !ok || err != api.OK {
		t.Error(ok, err)
	}
	checkSuggest(t, r, 0, 15, 0, 2, m, l, ok, err)
	r.Events[16].Grazing = 4
	checkSuggest(t, r, 0, 16, 0, 2, m, l, ok, err)
	checkSuggest(t, r, 0, 16, 0, 3, api.Mark{}, nil, false, api.ErrArg)
}

// P5.7: any two marks in use on one fold are apart, on every day, as known on every day.
func TestMarksInUseAreApart(t *testing.T) {
	pairs := 0
	for _, r := range someRegisters() {
		for _, known := range knownDays(r) {
			for day := range someDays + 1 {
				l, _ := register.State(r, day, known)
				for i, x := range l {
					for _, y := range l[:i] {
						if x.Rests || y.Rests || !onFold(r.Fell, x.Grazing, y.Grazing) {
							continue
						}
						pairs++
						if clash(x.Mark, y.Mark, r.Budget) {
							t.Fatal(r, day, known, x, y)
						}
					}
				}
			}
		}
	}
	if pairs < 1000 {
		t.Error(pairs)
	}
}

// outcomes are marks that m can come to look like within b.
func outcomes(d *dice, m api.Mark, b api.Budget) []api.Mark {
	near, _ := knife.Costs(m.Near, b)
	far, _ := knife.Costs(m.Far, b)
	l := []api.Mark{m}
	for range 8 {
		x, y := near[d.throw(len(near))], far[d.throw(len(far))]
		if x.Weather+y.Weather <= b.Weather && x.Cuts+y.Cuts <= b.Cuts {
			l = append(l, api.Mark{Near: x.Ear, Far: y.Ear})
		}
		l = append(l, api.Mark{Near: x.Ear, Far: m.Far}, api.Mark{Near: m.Near, Far: y.Ear})
	}
	return l
}

// P5.8 and P0.1: whatever becomes of a mark in use within the budget has it, and no other mark, among its candidates on its fold.
func TestOneOwner(t *testing.T) {
	for i, r := range someRegisters() {
		d := dice(500 + i)
		for range 5 {
			day, known := d.throw(someDays+1), knownDays(r)[d.throw(len(knownDays(r)))]
			l, _ := register.State(r, day, known)
			for _, h := range l {
				if h.Rests {
					continue
				}
				grazing := d.throw(r.Fell.Grazings)
				for !onFold(r.Fell, grazing, h.Grazing) {
					grazing = d.throw(r.Fell.Grazings)
				}
				for _, seen := range outcomes(&d, h.Mark, r.Budget) {
					if got, err := register.Candidates(r, seen, grazing, day, known); !slices.Equal(got, []int{h.Id}) || err != api.OK {
						t.Fatal(r, day, known, h, seen, grazing, got, err)
					}
				}
			}
		}
	}
}

// P0.2: an event that brings a mark into use is refused exactly if some mark on its fold clashes, and the refusal shows how.
func TestExactlyTheClashes(t *testing.T) {
	refused := 0
	for i, r := range someRegisters() {
		d := dice(600 + i)
		for range 120 {
			e := thrown(&d, r, someDays)
			s := stateOf(r, e.At, api.MaxDay)
			m, grazing, brings, _ := s.entering(r, e)
			x, err := register.Try(r, e)
			if (err == api.ErrRefused) != (brings && len(s.rivals(r, m, grazing)) > 0) {
				t.Fatal(r, e, err)
			}
			if err != api.ErrRefused {
				continue
			}
			refused++
			here, _, _ := knife.StepAll(m, x.New)
			there, _, _ := knife.StepAll(s[x.Id].Mark, x.Old)
			if here != x.Shape || there != x.Shape {
				t.Fatal(r, e, x)
			}
		}
	}
	if refused < 30 {
		t.Error(refused)
	}
}

// about returns the ids of the mark that e is about and of its heirs, with e.
func about(r api.Register, e api.Event) []int {
	id := e.Id
	if e.Kind == api.AdmitE {
		id = e.No
	}
	l, _ := register.Heirs(with(r, e), id)
	return append(l, id)
}

// P5.14: an event changes nothing on folds where neither the mark that it is about nor any of its heirs is.
func TestOtherFoldsStayAsTheyAre(t *testing.T) {
	stays := 0
	for i, r := range someRegisters() {
		d := dice(700 + i)
		for range 80 {
			e := thrown(&d, r, someDays)
			made, err := register.Append(r, e)
			if err != api.OK {
				continue
			}
			ids := about(r, e)
			day, known, m := d.throw(someDays+1), e.Known+d.throw(2), someMarks()[d.throw(len(someMarks()))]
			for grazing := range r.Fell.Grazings {
				is := func(h api.Held) bool { return slices.Contains(ids, h.Id) && onFold(r.Fell, h.Grazing, grazing) }
				if len(stateOf(r, day, known).ids(is))+len(stateOf(made, day, known).ids(is)) > 0 {
					continue
				}
				stays++
				a, _ := register.Candidates(r, m, grazing, day, known)
				b, _ := register.Candidates(made, m, grazing, day, known)
				c, _ := register.Clashes(r, m, grazing, day, known)
				d, _ := register.Clashes(made, m, grazing, day, known)
				x, isX, _ := register.Find(r, m, grazing, day, known)
				y, isY, _ := register.Find(made, m, grazing, day, known)
				if !slices.Equal(a, b) || !slices.Equal(c, d) || x != y || isX != isY {
					t.Fatal(r, e, m, grazing, day, known)
				}
			}
		}
	}
	if stays < 100 {
		t.Error(stays)
	}
}

// P5.10: an event changes no state as known on a day before its Known, and none for a day before its At.
func TestWhatWasKnownStays(t *testing.T) {
	appended := 0
	for i, r := range someRegisters() {
		d := dice(800 + i)
		for range 40 {
			e := thrown(&d, r, someDays)
			e.Known += 1
			made, err := register.Append(r, e)
			if err != api.OK {
				continue
			}
			appended++
			for day := range someDays + 1 {
				for _, known := range []int{0, e.Known - 2, e.Known - 1, e.Known, api.MaxDay} {
					if known < 0 || day >= e.At && known >= e.Known {
						continue
					}
					a, _ := register.State(r, day, known)
					b, _ := register.State(made, day, known)
					if !slices.Equal(a, b) {
						t.Fatal(r, e, day, known)
					}
				}
			}
		}
	}
	if appended < 20 {
		t.Error(appended)
	}
}
