package register

import (
	"strconv"
	"strings"

	"earmark/api"
	"earmark/ear"
)

// maxWords is more words than the text of any event has.
const maxWords = 9

// PrintEvent returns the text of e, a line without its end.
func PrintEvent(e api.Event) (string, api.Errno) {
	if !isWellFormed(api.Fell{Grazings: api.MaxGrazings}, e) {
		return "", api.ErrEvent
	}
	words := []string{kinds[e.Kind].word}
	for _, n := range numbersOf(&e) {
		words = append(words, strconv.Itoa(*n))
	}
	for _, x := range earsOf(&e) {
		short, _ := ear.Short(*x)
		words = append(words, short)
	}
	return strings.Join(words, " "), api.OK
}

// ParseEvent returns the event with the text s.
func ParseEvent(s string) (api.Event, api.Errno) {
	e, ok := read(strings.SplitN(s, " ", maxWords))
	if !ok {
		return api.Event{}, api.ErrParse
	}
	// Numbers with signs or leading zeros have been read, and such as are out of their ranges, none of which is ever printed.
	if text, _ := PrintEvent(e); text != s {
		return api.Event{}, api.ErrParse
	}
	return e, api.OK
}

// numbersOf returns the numbers that an event of its kind has, in the order in which they are written.
func numbersOf(e *api.Event) []*int {
	l := []*int{&e.No, &e.At, &e.Known}
	has := kinds[e.Kind]
	if has.id {
		l = append(l, &e.Id)
	}
	if has.flock {
		l = append(l, &e.Flock)
	}
	if has.grazing {
		l = append(l, &e.Grazing)
	}
	return l
}

// earsOf returns the ears that an event of its kind has, in the order in which they are written.
func earsOf(e *api.Event) []*api.Ear {
	if !kinds[e.Kind].mark {
		return nil
	}
	return []*api.Ear{&e.Mark.Near, &e.Mark.Far}
}

// kindOf returns the kind of events that a word stands for; 0 if there is none.
func kindOf(word string) int {
	for i, k := range kinds {
		if k.word == word {
			return i
		}
	}
	return 0
}

// read returns the event that words denote, and whether they are as many and of such sorts as those of its kind.
func read(words []string) (api.Event, bool) {
	e := api.Event{Kind: kindOf(words[0])}
	words = words[1:]
	numbers, ears := numbersOf(&e), earsOf(&e)
	if e.Kind == 0 || len(words) != len(numbers)+len(ears) {
		return api.Event{}, false
	}
	for i, n := range numbers {
		value, err := strconv.Atoi(words[i])
		if err != nil {
			return api.Event{}, false
		}
		*n = value
	}
	for i, x := range ears {
		value, err := ear.ParseShort(words[len(numbers)+i])
		if err != api.OK {
			return api.Event{}, false
		}
		*x = value
	}
	return e, true
}
