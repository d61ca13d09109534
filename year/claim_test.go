package year_test

import (
	"fmt"
	"slices"
	"strings"
	"testing"

	"earmark/api"
	"earmark/stray"
	"earmark/year"
)

// checkClaim checks a claim, with its strays as for each one "FLOCK:WRONG FLOCK:WRONG".
func checkClaim(t *testing.T, y *year.Year, gathering, wrong int, missing []int, strays ...string) {
	t.Helper()
	c, err := y.Claim(0, gathering, wrong)
	var got []string
	for _, options := range c.Strays {
		var words []string
		for _, o := range options {
			words = append(words, fmt.Sprintf("%d:%d", o.Flock, o.Wrong))
		}
		got = append(got, strings.Join(words, " "))
	}
	if !slices.Equal(c.Missing, missing) || !slices.Equal(got, strays) || c.Wrong != wrong || err != api.OK {
		t.Errorf("%v %q %d %d, not %v %q", c.Missing, got, c.Wrong, err, missing, strays)
	}
}

// P9.3: how long the list of what flocks miss is.
func TestMissing(t *testing.T) {
	y := modelOf(t, "grazings 1", "begin 1 30 0 0 7")
	checkClaim(t, y, 0, 0, nil)
	// A mark in use counts from its day on, unless it rests.
	doAll(t, y, "write 0 admit 2 3 0 "+whole)
	checkClaim(t, y, 0, 0, nil)
	doAll(t, y, "day 2")
	checkClaim(t, y, 0, 0, []int{0, 0, 0, 0})
	doAll(t, y, "write 0 sell 2 0.0 1")
	checkClaim(t, y, 0, 0, []int{0, 0})
	doAll(t, y, "write 0 rest 2 0.0")
	checkClaim(t, y, 0, 0, nil)
	doAll(t, y, "write 0 resume 5 0.0", "day 2")
	checkClaim(t, y, 0, 0, nil)
	doAll(t, y, "day 1")
	checkClaim(t, y, 0, 0, []int{0, 0})
	// A count of another gathering makes the list longer, also one of no sheep.
	doAll(t, y, "write 0 miss 7 2 0")
	checkClaim(t, y, 0, 0, []int{0, 0, 0})
	doAll(t, y, "write 0 miss 7 0 9", "write 0 miss 0 1 64")
	checkClaim(t, y, 0, 0, []int{0, 64, 0})
	checkClaim(t, y, 7, 5, []int{9, 0, 0})
	checkClaim(t, y, 4095, 65536, []int{0, 0, 0})
	// The last count is what counts.
	doAll(t, y, "write 0 miss 0 1 3", "write 0 miss 0 1 2")
	checkClaim(t, y, 0, 0, []int{0, 2, 0})
	doAll(t, y, "write 0 miss 0 63 1")
	checkClaim(t, y, 0, 0, append([]int{0, 2}, append(make([]int, 61), 1)...))
}

// P9.3: the last count is that of the last day, then of the greatest parish, then of the greatest number.
func TestLastCount(t *testing.T) {
	y := modelOf(t, "grazings 1", "begin 3 30 0 0 7", "write 2 miss 0 0 5", "day 1", "write 0 miss 0 0 6", "send 2 0")
	checkClaim(t, y, 0, 0, []int{6})
	doAll(t, y, "write 1 miss 0 0 7", "write 0 miss 0 0 8", "send 1 0")
	checkClaim(t, y, 0, 0, []int{7})
	doAll(t, y, "write 2 miss 0 0 9", "write 2 miss 0 0 4", "send 2 0", "write 1 miss 0 0 3", "send 1 0")
	checkClaim(t, y, 0, 0, []int{4})
	doAll(t, y, "day 1", "write 0 miss 0 0 1")
	checkClaim(t, y, 0, 0, []int{1})
}

// P9.3: which sightings are strays, in which order, and which marks count for them.
func TestStrays(t *testing.T) {
	y := modelOf(t, "grazings 3", "gate 0 1 5 9", "begin 2 30 1 0 7",
		"write 0 admit 0 0 0 "+whole, "write 0 admit 0 1 1 "+key, "write 0 admit 0 2 2 "+notch, "write 0 admit 5 3 0 "+forked,
		"sheet 0 1 2 1 2 0 ; ewe 0 0 "+whole+" ; ewe 0 1 "+whole+" ; ram 4 0 w.k......... c...........",
		"sheet 0 1 2 0 2 2 ; ewe 0 0 "+notch,
		"sheet 0 0 0 0 1 0 ; ewe 0 0 "+key,
		"sheet 0 2 0 0 1 2 ; ewe 0 0 "+key+" ; ewe 0 63 "+key,
		"sheet 0 1 1 0 1 1 ; ewe 0 63 "+whole,
		"sheet 0 3 1 0 1 1 ; ewe 0 0 "+forked,
	)
	// A mark of another gathering is not seen; a painted head is no stray.
	checkClaim(t, y, 1, 4, []int{0, 0, 0}, "2:0", "0:0 1:1", "0:1 1:0")
	checkClaim(t, y, 0, 0, []int{0, 0, 0}, "0:1 1:0")
	// On the third grazing there is the flock 2 alone; the key can be a notch that was misread.
	checkClaim(t, y, 2, 0, []int{0, 0, 0}, "2:1")
	// The forked ears are not there before the day 5.
	if c, err := y.Claim(0, 3, 0); len(c.Missing)+len(c.Strays) != 0 || err != api.ErrClaim {
		t.Error(c, err)
	}
	for _, line := range []string{"verdicts 0 3 0", "pay 0 3 0 9"} {
		check(t, y, line, "", api.ErrClaim)
	}
	doAll(t, y, "day 4")
	check(t, y, "verdicts 0 3 0", "", api.ErrClaim)
	doAll(t, y, "day 1", "write 0 miss 3 3 1")
	checkClaim(t, y, 3, 0, []int{0, 0, 0, 1}, "3:0")
	check(t, y, "verdicts 0 3 0", "3", api.OK)
	// The other parish knows nothing of it.
	if c, err := y.Claim(1, 1, 0); len(c.Missing)+len(c.Strays) != 0 || err != api.OK {
		t.Error(c, err)
	}
	check(t, y, "verdicts 1 1 0", "", api.OK)
	check(t, y, "pay 1 1 0 7", "", api.OK)
	// A grazing that the fell does not have.
	doAll(t, y, "sheet 0 9 1 0 1 3 ; ewe 0 1 "+whole)
	check(t, y, "verdicts 0 9 0", "", api.OK)
	doAll(t, y, "sheet 0 9 2 0 1 3 ; ewe 0 0 "+whole)
	check(t, y, "verdicts 0 9 0", "", api.ErrArg)
	check(t, y, "pay 0 9 0 1", "", api.ErrArg)
	// More strays than a claim can have.
	heads := strings.Repeat(" ; ewe 0 0 "+whole, 64)
	doAll(t, y, "sheet 0 10 0 0 1 0"+heads, "write 0 miss 10 0 64")
	check(t, y, "verdicts 0 10 0", strings.Repeat("0\n", 63)+"0", api.OK)
	doAll(t, y, "sheet 0 10 1 0 1 0 ; ewe 0 0 "+whole)
	check(t, y, "verdicts 0 10 0", "", api.ErrLimit)
}

// P9.3: a painted sheep among the first ones of its sheet, and conflicts, which are no strays.
func TestStraysOfRoll(t *testing.T) {
	y := modelOf(t, "grazings 1", "begin 1 30 0 0 7", "write 0 admit 0 0 0 "+whole, "write 0 admit 0 1 0 "+forked,
		"sheet 0 0 0 0 1 0 ; ram 0 0 "+forked, "sheet 0 0 0 0 1 0 ; ewe 0 1 "+whole+" ; ewe 0 0 "+whole)
	checkClaim(t, y, 0, 0, []int{0, 0}, "0:0")
}

// P9.2, P9.3: verdicts, and what flocks get.
func TestVerdicts(t *testing.T) {
	y := modelOf(t, "grazings 1", "begin 1 30 1 0 7", "write 0 admit 0 0 0 "+whole, "write 0 admit 0 1 0 "+key, "write 0 admit 0 4 0 "+forked,
		"sheet 0 0 0 0 1 0 ; ewe 0 0 "+notch+" ; ewe 0 0 w.b......... w...........")
	// Both can be of either flock, if one reading is wrong.
	checkClaim(t, y, 0, 1, []int{0, 0, 0, 0, 0}, "0:1 1:1", "0:1 1:1")
	check(t, y, "verdicts 0 0 2", "", api.ErrNone)
	check(t, y, "pay 0 0 2 10", "", api.ErrNone)
	if l, err := y.Verdicts(0, 0, 2); len(l) != 0 || err != api.ErrNone {
		t.Error(l, err)
	}
	doAll(t, y, "write 0 miss 0 0 1", "write 0 miss 0 1 3", "write 0 miss 0 4 9")
	check(t, y, "verdicts 0 0 1", "", api.ErrNone)
	check(t, y, "verdicts 0 0 2", "0 1\n0 1", api.OK)
	// Of each one the flock 0 gets a quarter, rounded up.
	check(t, y, "pay 0 0 2 10", "0 6\n1 14", api.OK)
	check(t, y, "pay 0 0 2 0", "", api.OK)
	check(t, y, "pay 0 0 2 1", "1 2", api.OK)
	check(t, y, "pay 0 0 65536 1073741824", "0 536870912\n1 1610612736", api.OK)
	l, err := y.Verdicts(0, 0, 2)
	if len(l) != 2 || !slices.Equal(l[0].Flocks, []int{0, 1}) || len(l[0].Reasons) != 0 || err != api.OK {
		t.Error(l, err)
	}
	doAll(t, y, "write 0 miss 0 0 0")
	check(t, y, "verdicts 0 0 2", "1\n1", api.OK)
	check(t, y, "pay 0 0 2 10", "1 20", api.OK)
	c, _ := y.Claim(0, 0, 2)
	if l, err := y.Verdicts(0, 0, 2); len(l) != 2 || len(l[0].Reasons) != 1 || err != api.OK || stray.CheckReason(c, 0, 0, l[0].Reasons[0]) != api.OK || stray.CheckReason(c, 1, 0, l[1].Reasons[0]) != api.OK {
		t.Error(l, err)
	}
}
