package sheets

import (
	"cmp"

	"earmark/api"
	"earmark/weather"
)

// MayBe reports whether b can be the same sheep as a, which was seen earlier.
func MayBe(a, b api.Sighting, k int) (bool, api.Errno) {
	if err := cmp.Or(checkSighting(a), checkSighting(b), checkLimit(k)); err != api.OK {
		return false, err
	}
	return mayBe(a, b, k), api.OK
}

// checkSighting returns the error of a sighting that is not acceptable.
func checkSighting(x api.Sighting) api.Errno {
	if err := CheckHead(x.Head); err != api.OK {
		return err
	}
	if !isDay(x.Day) {
		return api.ErrArg
	}
	return api.OK
}

func checkLimit(k int) api.Errno {
	if !within(k, 0, api.MaxSteps) {
		return api.ErrArg
	}
	return api.OK
}

// mayBe reports whether the sheep of b may be that of a. Both are acceptable.
func mayBe(a, b api.Sighting, k int) bool {
	if a.Day > b.Day || !canBecome(a.Head.Sex, b.Head.Sex) {
		return false
	}
	grown := b.Head.Teeth - a.Head.Teeth
	if !within(grown, 0, 1+(b.Day-a.Day)/api.YearDays) {
		return false
	}
	_, is, _ := weather.MarkDistance(a.Head.Seen, b.Head.Seen, k)
	return is
}

// canBecome reports whether a sheep of one sex can be seen later as one of the other.
func canBecome(earlier, later int) bool {
	return earlier == later || earlier == api.Ram && later == api.Wether
}
