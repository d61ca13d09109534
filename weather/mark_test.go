package weather_test

import (
	"slices"
	"testing"

	"earmark/api"
	"earmark/ear"
	"earmark/weather"
)

// pair is a mark as the codes of its ears.
type pair [2]int

func pairOf(m api.Mark) pair { return pair{codeOf(m.Near), codeOf(m.Far)} }

func (p pair) mark() api.Mark { return api.Mark{Near: all().ears[p[0]], Far: all().ears[p[1]]} }

// marksWithin returns how few steps lead from m to other marks, if at most k do.
func marksWithin(m api.Mark, k int) map[pair]int {
	goes := map[pair]int{pairOf(m): 0}
	found := []pair{pairOf(m)}
	for i := range k {
		var more []pair
		for _, x := range found {
			for side := range 2 {
				for _, y := range all().next[x[side]] {
					made := x
					made[side] = y
					if _, ok := goes[made]; !ok {
						goes[made] = i + 1
						more = append(more, made)
					}
				}
			}
		}
		found = more
	}
	return goes
}

// leastMarkWays returns, for all marks to which at most k steps lead from m, the least sequence of changes that leads there: it goes through all sequences in their order, and keeps the first one to each mark.
func leastMarkWays(m api.Mark, k int) map[pair][]api.Change {
	type trail struct {
		at  pair
		way []api.Change
	}
	ways := map[pair][]api.Change{pairOf(m): {}}
	trails := []trail{{at: pairOf(m)}}
	for range k {
		var longer []trail
		for _, t := range trails {
			for side := range 2 {
				for i, x := range all().made[t.at[side]] {
					if x < 0 {
						continue
					}
					at := t.at
					at[side] = x
					way := append(slices.Clone(t.way), api.Change{Far: side == 1, Step: steps[i]})
					longer = append(longer, trail{at, way})
					if _, ok := ways[at]; !ok {
						ways[at] = way
					}
				}
			}
		}
		trails = longer
	}
	return ways
}

// someMarks are marks of which some can come to look like others.
func someMarks() []api.Mark {
	var l []api.Mark
	for _, s := range []string{
		"near: whole; far: whole",
		"near: slit; far: whole",
		"near: upper notch 1; far: whole",
		"near: whole; far: upper notch 1",
		"near: cropped; far: cropped",
		"near: cropped, upper bit 0, lower key 1; far: cropped, upper key 2",
		"near: upper notch 1, hole 1; far: slit, lower notch 2",
		"near: slit, hole 0, lower notch 3; far: hole 1, upper bit 0, upper notch 2",
		"near: forked, upper notch 0; far: hollowed, hole 2",
		"near: hole 0, hole 2, upper notch 2; far: lower key 1, lower key 3",
		"near: slit, upper notch 0, upper notch 3, lower notch 1, lower notch 3, hole 0; far: slit, hole 0, hole 1, hole 2",
		"near: lower key 1, upper notch 2; far: cropped, lower key 1",
	} {
		l = append(l, markOf(s))
	}
	return l
}

// P2.5 and P2.12: the number of marks, and the sum over the near ears.
func TestCount(t *testing.T) {
	heavy := api.Mark{Near: rich()[2], Far: rich()[3]}
	for _, m := range append(someMarks(), heavy) {
		for k := range 5 {
			sum := 0
			for _, n := range within(codeOf(m.Near), k, all().next) {
				sum += len(within(codeOf(m.Far), k-n, all().next))
			}
			got, err := weather.Count(m, k)
			if got != len(marksWithin(m, k)) || got != sum || err != api.OK {
				t.Fatal(m, k, got, sum, err)
			}
			if swapped, err := weather.Count(ear.Swap(m), k); swapped != got || err != api.OK {
				t.Fatal(m, k, got, swapped, err)
			}
		}
	}
}

// P2.5, examples: one of the tips can fall off.
func TestCountOfTheWholeMark(t *testing.T) {
	for k, want := range []int{1, 3, 4, 4, 4} {
		if got, err := weather.Count(api.Mark{}, k); got != want || err != api.OK {
			t.Error(k, got, err)
		}
	}
}

// P2.5, P2.11 and P2.12: MarkWay is the least of all sequences, and MarkDistance its length.
func TestMarkWayAndMarkDistance(t *testing.T) {
	for _, m := range someMarks() {
		for p, way := range leastMarkWays(m, 3) {
			seen := p.mark()
			for k := range 5 {
				got, ok, err := weather.MarkWay(m, seen, k)
				n, found, err2 := weather.MarkDistance(m, seen, k)
				if err != api.OK || err2 != api.OK || ok != (len(way) <= k) || found != ok {
					t.Fatal(m, seen, k, got, ok, err)
				}
				if ok && (!slices.Equal(got, way) || n != len(way)) || !ok && (len(got) != 0 || n != 0) {
					t.Fatal(m, seen, k, got, n, way)
				}
			}
			near, _, _ := weather.Way(m.Near, seen.Near, 4)
			far, _, _ := weather.Way(m.Far, seen.Far, 4)
			var want []api.Change
			for _, s := range near {
				want = append(want, api.Change{Step: s})
			}
			for _, s := range far {
				want = append(want, api.Change{Far: true, Step: s})
			}
			if !slices.Equal(way, want) {
				t.Fatal(m, seen, way, want)
			}
		}
	}
}

// P2.5 and P2.14: what is found with the limit 4, and what is not.
func TestMarkDistanceBetweenSomeMarks(t *testing.T) {
	found := 0
	l := someMarks()
	for _, m := range l {
		goes := marksWithin(m, 4)
		for p := range goes {
			if len(l) < 400 && p[0]%5 == 0 {
				l = append(l, p.mark())
			}
		}
		for _, seen := range l {
			want, is := goes[pairOf(seen)]
			if is {
				found++
			}
			if n, ok, err := weather.MarkDistance(m, seen, 4); n != want || ok != is || err != api.OK {
				t.Fatal(m, seen, n, ok, err)
			}
			if n, ok, err := weather.MarkDistance(ear.Swap(m), ear.Swap(seen), 4); n != want || ok != is || err != api.OK {
				t.Fatal(m, seen, n, ok, err)
			}
			if way, ok, err := weather.MarkWay(m, seen, 4); len(way) != want || ok != is || err != api.OK {
				t.Fatal(m, seen, way, ok, err)
			}
		}
	}
	if found < len(l) {
		t.Error(found)
	}
}

// P2.5
func TestMarkWayExamples(t *testing.T) {
	from, to := markOf("near: slit, upper notch 1; far: hole 2, lower notch 0"), markOf("near: upper bit 1; far: cropped")
	change := func(far bool, s string) api.Change { return api.Change{Far: far, Step: stepOf(s)} }
	for k := range 4 {
		if l, ok, err := weather.MarkWay(from, to, k); len(l) != 0 || ok || err != api.OK {
			t.Error(k, l, ok, err)
		}
	}
	to = markOf("near: upper bit 1; far: lower notch 0")
	want := []api.Change{change(false, "heal"), change(false, "wear upper 1"), change(true, "close 2")}
	for k := 3; k <= 4; k++ {
		if l, ok, err := weather.MarkWay(from, to, k); !slices.Equal(l, want) || !ok || err != api.OK {
			t.Error(k, l, ok, err)
		}
	}
	if n, ok, err := weather.MarkDistance(from, to, 2); n != 0 || ok || err != api.OK {
		t.Error(n, ok, err)
	}
	if l, ok, err := weather.MarkWay(from, from, 0); len(l) != 0 || !ok || err != api.OK {
		t.Error(l, ok, err)
	}
	if l, ok, err := weather.MarkWay(markOf("near: cropped; far: slit"), markOf("near: whole; far: whole"), 4); len(l) != 0 || ok || err != api.OK {
		t.Error(l, ok, err)
	}
	if l, ok, err := weather.MarkWay(markOf("near: slit; far: cropped"), markOf("near: whole; far: whole"), 4); len(l) != 0 || ok || err != api.OK {
		t.Error(l, ok, err)
	}
}

// P2.5, P2.6 and P2.13: the least mark that both lead to; Apart and Radius follow from it, and the order of the marks changes nothing.
func TestMarkMeetApartAndRadius(t *testing.T) {
	together := map[bool]int{}
	for _, a := range someMarks() {
		for _, b := range someMarks() {
			radius := 5
			for k := 4; k >= 0; k-- {
				want, meet := leastMeeting(a, b, k)
				together[meet]++
				if meet {
					radius = k
				}
				for _, p := range [][2]api.Mark{{a, b}, {b, a}} {
					if got, ok, err := weather.MarkMeet(p[0], p[1], k); got != want || ok != meet || err != api.OK {
						t.Fatal(p, k, got, ok, err)
					}
					if got, err := weather.Apart(p[0], p[1], k); got == meet || err != api.OK {
						t.Fatal(p, k, got, err)
					}
				}
				if got, err := weather.Apart(ear.Swap(a), ear.Swap(b), k); got == meet || err != api.OK {
					t.Fatal(a, b, k, got, err)
				}
			}
			for most := range 5 {
				for _, p := range [][2]api.Mark{{a, b}, {b, a}, {ear.Swap(a), ear.Swap(b)}} {
					if got, err := weather.Radius(p[0], p[1], most); got != min(radius, most+1) || err != api.OK {
						t.Fatal(p, most, got, radius, err)
					}
				}
			}
		}
	}
	if together[true] < 100 || together[false] < 100 {
		t.Error(together)
	}
}

// leastMeeting returns the least mark to which at most k steps lead from a, and at most k from b.
func leastMeeting(a, b api.Mark, k int) (api.Mark, bool) {
	var met []pair
	other := marksWithin(b, k)
	for p := range marksWithin(a, k) {
		if _, ok := other[p]; ok {
			met = append(met, p)
		}
	}
	if len(met) == 0 {
		return api.Mark{}, false
	}
	return slices.MinFunc(met, func(a, b pair) int { return slices.Compare(a[:], b[:]) }).mark(), true
}

// P2.13: what marks that are not apart meet in can be reached from both.
func TestMeetingsAreReached(t *testing.T) {
	for _, a := range someMarks() {
		for _, b := range someMarks() {
			for k := range 5 {
				met, ok, _ := weather.MarkMeet(a, b, k)
				if !ok {
					continue
				}
				_, fromA, _ := weather.MarkDistance(a, met, k)
				_, fromB, _ := weather.MarkDistance(b, met, k)
				apart, _ := weather.Apart(a, b, min(k+1, 4))
				if !fromA || !fromB || apart {
					t.Fatal(a, b, k, met, fromA, fromB, apart)
				}
			}
		}
	}
}

// P2.6, examples: marks that differ in the near tip alone, which is Slit and Whole.
func TestRadiusExamples(t *testing.T) {
	for _, rest := range []string{"; far: whole", "; far: cropped, hole 1", "; far: lower notch 2, hole 0"} {
		a, b := markOf("near: slit"+rest), markOf("near: whole"+rest)
		for most := range 5 {
			if got, err := weather.Radius(a, b, most); got != 1 || err != api.OK {
				t.Error(rest, most, got, err)
			}
			if got, err := weather.Radius(a, a, most); got != 0 || err != api.OK {
				t.Error(rest, most, got, err)
			}
			if apart, err := weather.Apart(a, b, most); apart != (most == 0) || err != api.OK {
				t.Error(rest, most, apart, err)
			}
		}
	}
	a, b := markOf("near: upper key 0; far: whole"), markOf("near: upper key 1; far: whole")
	for most := range 5 {
		if got, err := weather.Radius(a, b, most); got != most+1 || err != api.OK {
			t.Error(most, got, err)
		}
	}
	a, b = markOf("near: upper notch 0; far: slit"), markOf("near: upper bit 0; far: forked")
	for most, want := range []int{1, 2, 2, 2, 2} {
		if got, err := weather.Radius(a, b, most); got != want || err != api.OK {
			t.Error(most, got, err)
		}
	}
}

// P2.5 and P2.6: the limits count the steps on both ears together.
func TestLimitsCountBothEars(t *testing.T) {
	a, b := markOf("near: slit; far: slit"), markOf("near: whole; far: whole")
	if got, ok, err := weather.MarkMeet(a, b, 1); got != (api.Mark{}) || ok || err != api.OK {
		t.Error(got, ok, err)
	}
	if got, ok, err := weather.MarkMeet(a, b, 2); got != b || !ok || err != api.OK {
		t.Error(got, ok, err)
	}
	if n, ok, err := weather.MarkDistance(a, b, 1); n != 0 || ok || err != api.OK {
		t.Error(n, ok, err)
	}
	if n, ok, err := weather.MarkDistance(a, b, 2); n != 2 || !ok || err != api.OK {
		t.Error(n, ok, err)
	}
}

// P2.5 and P2.6: invalid marks come before limits, and with an error every other result is zero.
func TestInvalidMarks(t *testing.T) {
	good := markOf("near: slit; far: hole 1")
	for _, bad := range badEars() {
		for _, m := range []api.Mark{{Near: bad}, {Far: bad}, {Near: bad, Far: bad}} {
			for _, k := range []int{0, 2, -1, 5} {
				checkInvalidMarks(t, m, good, k, api.ErrEar)
				checkInvalidMarks(t, m, m, k, api.ErrEar)
			}
		}
	}
	for _, k := range badLimits {
		checkInvalidMarks(t, good, markOf("near: whole; far: whole"), k, api.ErrArg)
		checkInvalidMarks(t, good, good, k, api.ErrArg)
	}
}

// checkInvalidMarks checks that the functions of marks and a limit return an error, in whichever order the marks are, and nothing else.
func checkInvalidMarks(t *testing.T, bad, other api.Mark, k int, want api.Errno) {
	t.Helper()
	if n, err := weather.Count(bad, k); n != 0 || err != want {
		t.Error("Count", bad, k, n, err)
	}
	for _, p := range [][2]api.Mark{{bad, other}, {other, bad}} {
		if n, ok, err := weather.MarkDistance(p[0], p[1], k); n != 0 || ok || err != want {
			t.Error("MarkDistance", p, k, n, ok, err)
		}
		if l, ok, err := weather.MarkWay(p[0], p[1], k); len(l) != 0 || ok || err != want {
			t.Error("MarkWay", p, k, l, ok, err)
		}
		if m, ok, err := weather.MarkMeet(p[0], p[1], k); m != (api.Mark{}) || ok || err != want {
			t.Error("MarkMeet", p, k, m, ok, err)
		}
		if apart, err := weather.Apart(p[0], p[1], k); apart || err != want {
			t.Error("Apart", p, k, apart, err)
		}
		if n, err := weather.Radius(p[0], p[1], k); n != 0 || err != want {
			t.Error("Radius", p, k, n, err)
		}
	}
}
