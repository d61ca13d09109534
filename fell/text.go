package fell

import (
	"strconv"
	"strings"

	"earmark/api"
)

const (
	fellWord = "fell"
	gateWord = "gate"
)

// Print returns the text of f.
func Print(f api.Fell) (string, api.Errno) {
	if err := Check(f); err != api.OK {
		return "", err
	}
	s := textLine(fellWord, f.Grazings)
	for _, g := range f.Gates {
		s += textLine(gateWord, g.A, g.B, g.From, g.To)
	}
	return s, api.OK
}

// Parse returns the fell with the text s; if there is none, the number of the line that goes wrong.
func Parse(s string) (api.Fell, int, api.Errno) {
	if len(s) > api.MaxText {
		return api.Fell{}, 0, api.ErrLimit
	}
	var f api.Fell
	for n := 1; n == 1 || s != ""; n++ {
		line, rest, ended := strings.Cut(s, "\n")
		if !ended || !readLine(&f, line) {
			return api.Fell{}, n, api.ErrParse
		}
		s = rest
	}
	return f, 0, api.OK
}

func textLine(word string, numbers ...int) string {
	for _, n := range numbers {
		word += " " + strconv.Itoa(n)
	}
	return word + "\n"
}

// readLine adds what a line says to f, and reports whether f is valid then. A fell that has no grazings yet is at its first line.
func readLine(f *api.Fell, line string) bool {
	if l, ok := numbersAfter(fellWord, line, 1); ok && f.Grazings == 0 {
		f.Grazings = l[0]
	} else if l, ok := numbersAfter(gateWord, line, 4); ok {
		f.Gates = append(f.Gates, api.Gate{A: l[0], B: l[1], From: l[2], To: l[3]})
	} else {
		return false
	}
	return Check(*f) == api.OK
}

// numbersAfter returns the count numbers of a line that consists of them and the word before them, and whether it does.
func numbersAfter(word, line string, count int) ([]int, bool) {
	words := strings.Split(line, " ")
	if len(words) != 1+count || words[0] != word {
		return nil, false
	}
	var l []int
	for _, w := range words[1:] {
		n, err := strconv.Atoi(w)
		// Signs and leading zeros are not printed, and so not permitted.
		if err != nil || strconv.Itoa(n) != w {
			return nil, false
		}
		l = append(l, n)
	}
	return l, true
}
