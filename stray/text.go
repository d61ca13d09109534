package stray

import (
	"strconv"
	"strings"

	"earmark/api"
)

const (
	claimWord = "claim"
	flockWord = "flock"
	strayWord = "stray"
)

// Print returns the text of c.
func Print(c api.Claim) (string, api.Errno) {
	if err := Check(c); err != api.OK {
		return "", err
	}
	var b strings.Builder
	b.WriteString(textLine(claimWord, c.Wrong))
	for _, missing := range c.Missing {
		b.WriteString(textLine(flockWord, missing))
	}
	for _, options := range c.Strays {
		var numbers []int
		for _, o := range options {
			numbers = append(numbers, o.Flock, o.Wrong)
		}
		b.WriteString(textLine(strayWord, numbers...))
	}
	return b.String(), api.OK
}

// Parse returns the claim with the text s; if there is none, the number of the line that goes wrong.
func Parse(s string) (api.Claim, int, api.Errno) {
	if len(s) > api.MaxText {
		return api.Claim{}, 0, api.ErrLimit
	}
	var c api.Claim
	for n := 1; n == 1 || s != ""; n++ {
		line, rest, ended := strings.Cut(s, "\n")
		if !ended || !readLine(&c, line, n == 1) {
			return api.Claim{}, n, api.ErrParse
		}
		s = rest
	}
	return c, 0, api.OK
}

func textLine(word string, numbers ...int) string {
	for _, n := range numbers {
		word += " " + strconv.Itoa(n)
	}
	return word + "\n"
}

// readLine adds what a line says to c, and reports whether it may stand there, and c is valid then.
func readLine(c *api.Claim, line string, first bool) bool {
	words := strings.Split(line, " ")
	numbers, ok := readNumbers(words[1:])
	if !ok || first != (words[0] == claimWord) {
		return false
	}
	switch {
	case words[0] == claimWord && len(numbers) == 1:
		c.Wrong = numbers[0]
	case words[0] == flockWord && len(numbers) == 1 && len(c.Strays) == 0:
		c.Missing = append(c.Missing, numbers[0])
	case words[0] == strayWord && len(numbers)%2 == 0:
		c.Strays = append(c.Strays, optionsWith(numbers))
	default:
		return false
	}
	return Check(*c) == api.OK
}

// readNumbers returns the numbers that words denote, and whether all of them do. Signs and leading zeros are not printed, and so not permitted; a number below 0 is in no range.
func readNumbers(words []string) ([]int, bool) {
	var l []int
	for _, w := range words {
		n, err := strconv.Atoi(w)
		if err != nil || strconv.Itoa(n) != w {
			return nil, false
		}
		l = append(l, n)
	}
	return l, true
}

// optionsWith returns options by the numbers of their flocks and wrong readings, in turn.
func optionsWith(numbers []int) []api.Option {
	var l []api.Option
	for at := 0; at < len(numbers); at += 2 {
		l = append(l, api.Option{Flock: numbers[at], Wrong: numbers[at+1]})
	}
	return l
}
