package sheets

import (
	"strconv"
	"strings"

	"earmark/api"
	"earmark/ear"
)

const sheetWord = "sheet"

var sexes = [...]string{api.Ewe: "ewe", api.Ram: "ram", api.Wether: "wether"}

// PrintHead returns the text of h.
func PrintHead(h api.Head) (string, api.Errno) {
	if err := CheckHead(h); err != api.OK {
		return "", err
	}
	near, _ := ear.Short(h.Seen.Near)
	far, _ := ear.Short(h.Seen.Far)
	words := []string{sexes[h.Sex], strconv.Itoa(h.Teeth), strconv.Itoa(h.Paint), near, far}
	return strings.Join(words, " "), api.OK
}

// ParseHead returns the head with the text s.
func ParseHead(s string) (api.Head, api.Errno) {
	readers := headReaders()
	words := strings.SplitN(s, " ", len(readers)+1)
	if len(words) != len(readers) {
		return api.Head{}, api.ErrParse
	}
	var h head
	for i, read := range readers {
		if !read(&h, words[i]) {
			return api.Head{}, api.ErrParse
		}
	}
	if CheckHead(api.Head(h)) != api.OK {
		return api.Head{}, api.ErrParse
	}
	return api.Head(h), api.OK
}

// head is a head of which parts are read. Each of its methods reads one part from a word, and reports whether that is of the right sort.
type head api.Head

// headReaders returns what reads the words of a head, in the order in which they are written.
func headReaders() []func(*head, string) bool {
	return []func(*head, string) bool{(*head).readSex, (*head).readTeeth, (*head).readPaint, (*head).readNear, (*head).readFar}
}

func (h *head) readSex(word string) bool {
	for sex, name := range sexes {
		if word == name {
			h.Sex = sex
			return true
		}
	}
	return false
}

func (h *head) readTeeth(word string) bool { return readNumber(&h.Teeth, word) }

func (h *head) readPaint(word string) bool { return readNumber(&h.Paint, word) }

func (h *head) readNear(word string) bool { return readEar(&h.Seen.Near, word) }

func (h *head) readFar(word string) bool { return readEar(&h.Seen.Far, word) }

// readNumber reads a number into n. Signs and leading zeros are not printed, and so not permitted; a number below 0 is in no range.
func readNumber(n *int, word string) bool {
	value, err := strconv.Atoi(word)
	if err != nil || strconv.Itoa(value) != word {
		return false
	}
	*n = value
	return true
}

func readEar(e *api.Ear, word string) bool {
	value, err := ear.ParseShort(word)
	if err != api.OK {
		return false
	}
	*e = value
	return true
}

// Print returns the text of s.
func Print(s api.Sheet) (string, api.Errno) {
	if err := CheckSheet(s); err != api.OK {
		return "", err
	}
	var b strings.Builder
	b.WriteString(sheetWord)
	for _, n := range numbersOf(&s) {
		b.WriteString(" " + strconv.Itoa(*n))
	}
	b.WriteString("\n")
	for _, h := range s.Heads {
		text, _ := PrintHead(h)
		b.WriteString(text + "\n")
	}
	return b.String(), api.OK
}

// Parse returns the sheet with the text s; if there is none, the number of the line that goes wrong.
func Parse(s string) (api.Sheet, int, api.Errno) {
	if len(s) > api.MaxText {
		return api.Sheet{}, 0, api.ErrLimit
	}
	var made api.Sheet
	for n := 1; n == 1 || s != ""; n++ {
		line, rest, ended := strings.Cut(s, "\n")
		read := readHead
		if n == 1 {
			read = readFirst
		}
		if !ended || !read(&made, line) {
			return api.Sheet{}, n, api.ErrParse
		}
		s = rest
	}
	return made, 0, api.OK
}

// numbersOf returns the numbers of a sheet, in the order in which they are written.
func numbersOf(s *api.Sheet) []*int {
	return []*int{&s.Gathering, &s.Clerk, &s.Part, &s.Parts, &s.Day, &s.Grazing}
}

// readFirst makes s the sheet without heads whose text is a line, and reports whether there is one.
func readFirst(s *api.Sheet, line string) bool {
	numbers := numbersOf(s)
	words := strings.Split(line, " ")
	if len(words) != 1+len(numbers) || words[0] != sheetWord {
		return false
	}
	for i, n := range numbers {
		if !readNumber(n, words[1+i]) {
			return false
		}
	}
	return CheckSheet(*s) == api.OK
}

// readHead adds the head whose text is a line to s, and reports whether there is one, and room for it.
func readHead(s *api.Sheet, line string) bool {
	h, err := ParseHead(line)
	if err != api.OK || len(s.Heads) == api.MaxHeads {
		return false
	}
	s.Heads = append(s.Heads, h)
	return true
}
