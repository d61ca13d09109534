package knife

import "earmark/api"

// slotsOfRun is how many slots one change can change at the most: three, if two cuts run together.
const slotsOfRun = 3

// gap returns a number of changes within b, of either ear, without which two valid ears cannot become alike. A change of the tip may take both last slots along, and one of a hole a slot beside it; any other change is one of a single slot, or of three if cuts run together.
func gap(e, f api.Ear, b api.Budget) int {
	changes := 0
	slots := differing(e.Upper, f.Upper) + differing(e.Lower, f.Lower)
	if e.Tip != f.Tip {
		changes++
		slots -= differingAt(e, f, api.Slots-1)
	}
	for at, punched := range e.Holes {
		if punched != f.Holes[at] {
			changes++
			slots -= min(differingAt(e, f, at), 1)
		}
	}
	if b.Weather > 0 {
		slots = (slots + slotsOfRun - 1) / slotsOfRun
	}
	return changes + slots
}

// differingAt returns on how many edges two ears differ in a slot.
func differingAt(e, f api.Ear, at int) int {
	n := 0
	if e.Upper[at] != f.Upper[at] {
		n++
	}
	if e.Lower[at] != f.Lower[at] {
		n++
	}
	return n
}
