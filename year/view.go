package year

import (
	"cmp"
	"slices"

	"earmark/api"
	"earmark/register"
	"earmark/sheets"
	"earmark/stray"
)

// noted is a deed with the entry that says it and the day on which this was written.
type noted struct {
	deed
	by  name
	day int
}

// view is what counts for a parish: what entries say, by the day on which they were written, then by parish and number.
type view struct {
	deeds  []noted
	counts []count
	sheets []api.Sheet
}

// view returns what counts for a parish whose book is open.
func (y *Year) view(parish int) view { return viewOf(y.parishes[parish].book.All()) }

// viewOf returns what some entries say, which come by parish and number.
func viewOf(l []api.Entry) view {
	type read struct {
		by   name
		day  int
		says statement
	}
	var all []read
	for _, e := range l {
		if day, says, ok := readBody(e.Body); ok {
			all = append(all, read{name{e.Parish, e.No}, day, says})
		}
	}
	slices.SortStableFunc(all, func(a, b read) int { return cmp.Compare(a.day, b.day) })
	var v view
	for _, x := range all {
		switch says := x.says.(type) {
		case deed:
			v.deeds = append(v.deeds, noted{says, x.by, x.day})
		case count:
			v.counts = append(v.counts, says)
		case api.Sheet:
			v.sheets = append(v.sheets, says)
		}
	}
	return v
}

// roll returns the roll of the sheets that count, and the conflicts.
func (v view) roll() (api.Roll, []api.Conflict, api.Errno) { return sheets.Merge(v.sheets) }

// missing returns how many sheep each flock misses at a gathering, if these marks are held.
func (v view) missing(gathering int, held []api.Held) []int {
	flocks := 0
	for _, c := range v.counts {
		flocks = max(flocks, c.flock+1)
	}
	for _, h := range held {
		if !h.Rests {
			flocks = max(flocks, h.Flock+1)
		}
	}
	l := make([]int, flocks)
	for _, c := range v.counts {
		if c.gathering == gathering {
			l[c.flock] = c.missing
		}
	}
	return l
}

// strays returns the sightings of a gathering without paint.
func strays(r api.Roll, gathering int) []api.Sighting {
	l, _ := sheets.Sightings(r)
	return slices.DeleteFunc(l, func(x api.Sighting) bool {
		return x.Key.Gathering != gathering || x.Head.Paint != 0
	})
}

// claim returns the claim of a parish whose book is open.
func (y *Year) claim(parish, gathering, wrong int) (api.Claim, api.Errno) {
	v := y.view(parish)
	roll, _, err := v.roll()
	if err != api.OK {
		return api.Claim{}, err
	}
	r := y.ledgerOf(v).register
	held, _ := register.State(r, y.day, y.day)
	return stray.Build(r, v.missing(gathering, held), strays(roll, gathering), y.day, y.day, wrong)
}

// agree reports whether two parishes whose books are open have the same register, roll and conflicts.
func (y *Year) agree(a, b int) bool {
	v, w := y.view(a), y.view(b)
	return y.haveSameRegister(v, w) && haveSameRoll(v, w)
}

// haveSameRegister reports whether the same register is made of both. The fell and the budget are the same for all, and the same deeds need not be tried twice.
func (y *Year) haveSameRegister(v, w view) bool {
	return slices.Equal(v.deeds, w.deeds) || slices.Equal(y.ledgerOf(v).register.Events, y.ledgerOf(w).register.Events)
}

// haveSameRoll reports whether both have the same roll and conflicts, or there is neither for the same reason.
func haveSameRoll(v, w view) bool {
	roll, conflicts, err := v.roll()
	other, others, otherErr := w.roll()
	return err == otherErr && slices.EqualFunc(roll.Sheets, other.Sheets, isSame) && slices.EqualFunc(conflicts, others, isSameConflict)
}

// isSame reports whether two valid sheets are equal, which they are if their texts are.
func isSame(a, b api.Sheet) bool {
	text, _ := sheets.Print(a)
	other, _ := sheets.Print(b)
	return text == other
}

func isSameConflict(a, b api.Conflict) bool { return isSame(a.A, b.A) && isSame(a.B, b.B) }
