package stray

import (
	"cmp"
	"slices"

	"earmark/api"
	"earmark/knife"
	"earmark/register"
	"earmark/sheets"
)

// tooMany is more wrong readings than an option of Build has.
const tooMany = 2

// Build returns the claim about strays, by a register.
func Build(r api.Register, missing []int, l []api.Sighting, at, known, wrong int) (api.Claim, api.Errno) {
	if err := cmp.Or(register.Check(r), checkMissing(missing), checkSightings(r.Fell, l)); err != api.OK {
		return api.Claim{}, err
	}
	held, err := register.State(r, at, known)
	if err = cmp.Or(err, inRange(isWrong(wrong))); err != api.OK {
		return api.Claim{}, err
	}
	c := api.Claim{Missing: slices.Clone(missing), Wrong: wrong}
	folds := foldsOf(r.Fell)
	for _, x := range l {
		near := slices.DeleteFunc(slices.Clone(held), func(h api.Held) bool {
			return h.Rests || folds[h.Grazing] != folds[x.Grazing]
		})
		options := optionsFor(x.Head.Seen, near, len(missing), r.Budget)
		if len(options) == 0 {
			return api.Claim{}, api.ErrClaim
		}
		c.Strays = append(c.Strays, options)
	}
	return c, api.OK
}

// checkSightings returns the error of the first sighting whose head is not valid or whose grazing is not one of the fell, and then ErrLimit if they are too many.
func checkSightings(f api.Fell, l []api.Sighting) api.Errno {
	for _, x := range l {
		if err := cmp.Or(sheets.CheckHead(x.Head), inRange(within(x.Grazing, 0, f.Grazings-1))); err != api.OK {
			return err
		}
	}
	if len(l) > api.MaxHeads {
		return api.ErrLimit
	}
	return api.OK
}

// foldsOf returns for each grazing of a valid fell the first one of its fold.
func foldsOf(f api.Fell) []int {
	folds := make([]int, f.Grazings)
	for x := range folds {
		for !shareFold(f, folds[x], x) {
			folds[x]++
		}
	}
	return folds
}

// shareFold reports whether two grazings are on one fold. Only the fell matters for that; so it asks a register with a single mark, in one of them, which takes much less time than one with many.
func shareFold(f api.Fell, a, b int) bool {
	r := api.Register{Fell: f, Events: []api.Event{{Kind: api.AdmitE, Grazing: a}}}
	_, found, _ := register.Find(r, api.Mark{}, b, 0, 0)
	return found
}

// optionsFor returns the options of a stray with what was seen of it, if it has come from one of some marks. So many flocks count.
func optionsFor(seen api.Mark, near []api.Held, flocks int, b api.Budget) []api.Option {
	variants, _ := sheets.Variants(seen)
	least := slices.Repeat([]int{tooMany}, flocks)
	for _, h := range near {
		if h.Flock < flocks {
			least[h.Flock] = min(least[h.Flock], misread(h.Mark, seen, variants, b))
		}
	}
	var l []api.Option
	for flock, n := range least {
		if n < tooMany {
			l = append(l, api.Option{Flock: flock, Wrong: n})
		}
	}
	return l
}

// misread returns how many readings of what was seen, or of which these are the variants, are wrong if the sheep has come from m within b; tooMany if it cannot.
func misread(m, seen api.Mark, variants []api.Mark, b api.Budget) int {
	looks := func(n api.Mark) bool {
		is, _ := knife.Looks(m, n, b)
		return is
	}
	switch {
	case looks(seen):
		return 0
	case slices.ContainsFunc(variants, looks):
		return 1
	}
	return tooMany
}
