package year_test

import (
	"math/big"
	"math/rand"
	"regexp"
	"slices"
	"strconv"
	"strings"
	"testing"

	"earmark/api"
	"earmark/ear"
	"earmark/year"
)

// The tests read commands by a table of their forms: words in small letters stand there as they are, words in capitals stand for what has a word in sorts.
func lineForms() []string {
	l := []string{
		"grazings 1..16",
		"gate GRAZING GRAZING 0..359 0..359",
		"begin 1..8 1..64 0..3 0..3 0..4611686018427387904",
		"day 1..100000",
		"send PARISH PARISH",
		"sendall",
		"crash PARISH 1..1000",
		"open PARISH KEEP",
		"owner PARISH MARK DAY",
		"marks PARISH DAY",
		"refused PARISH",
		"missing PARISH",
		"verdicts PARISH ID 0..65536",
		"pay PARISH ID 0..65536 0..1073741824",
		"proofs PARISH",
		"agree PARISH PARISH",
		"sheet PARISH ID ID 0..15 1..16 GRAZING",
		"sheet PARISH ID ID 0..15 1..16 GRAZING" + headForm,
		"sheet PARISH ID ID 0..15 1..16 GRAZING" + headForm + headForm,
	}
	for _, form := range bodyForms() {
		l = append(l, "write PARISH "+form, "forge PARISH PARISH 0..63 "+form)
	}
	return l
}

const headForm = " ; SEX 0..4 0..63 EAR EAR"

func bodyForms() []string {
	return []string{
		"admit DAY FLOCK GRAZING EAR EAR",
		"sell DAY MARK FLOCK",
		"split DAY MARK FLOCK EAR EAR",
		"rest DAY MARK",
		"resume DAY MARK",
		"move DAY MARK GRAZING",
		"miss ID FLOCK 0..64",
	}
}

var ranges = map[string]string{
	"PARISH":  "0..7",
	"GRAZING": "0..15",
	"DAY":     "0..1048576",
	"FLOCK":   "0..63",
	"ID":      "0..4095",
}

var numeral = regexp.MustCompile(`^(0|[1-9][0-9]*)$`)

// isNumber reports whether a word is a number within a range, as least..most.
func isNumber(word, within string) bool {
	least, most, _ := strings.Cut(within, "..")
	n, isInt := new(big.Int).SetString(word, 10)
	a, _ := new(big.Int).SetString(least, 10)
	b, _ := new(big.Int).SetString(most, 10)
	return isInt && numeral.MatchString(word) && n.Cmp(a) >= 0 && n.Cmp(b) <= 0
}

var (
	keepWord = regexp.MustCompile(`^[0-9]{1,1000}$`)
	sexWord  = regexp.MustCompile(`^(ewe|ram|wether)$`)
)

// fits reports whether a word is one that a word of a form stands for.
func fits(form, word string) bool {
	if within, ok := ranges[form]; ok {
		form = within
	}
	switch {
	case strings.Contains(form, ".."):
		return isNumber(word, form)
	case form == "KEEP":
		return keepWord.MatchString(word)
	case form == "SEX":
		return sexWord.MatchString(word)
	case form == "EAR":
		e, err := ear.ParseShort(word)
		return err == api.OK && ear.Check(e) == api.OK
	case form == "MARK":
		l := strings.Split(word, ".")
		return len(l) == 2 && isNumber(l[0], "0..7") && isNumber(l[1], "0..63")
	}
	return word == form
}

func hasForm(form, line string) bool {
	want, got := strings.Split(form, " "), strings.Split(line, " ")
	if len(want) != len(got) {
		return false
	}
	for i := range want {
		if !fits(want[i], got[i]) {
			return false
		}
	}
	return true
}

// isCommand reports whether a line is a command.
func isCommand(line string) bool {
	heads := strings.Repeat(headForm, strings.Count(line, ";"))
	forms := append(lineForms(), "sheet PARISH ID ID 0..15 1..16 GRAZING"+heads)
	return slices.ContainsFunc(forms, func(form string) bool { return hasForm(form, line) })
}

// someWord returns a word that a word of a form stands for: often one at the bound of a range.
func someWord(r *rand.Rand, form string) string {
	if within, ok := ranges[form]; ok {
		form = within
	}
	if least, most, ok := strings.Cut(form, ".."); ok {
		a, _ := strconv.Atoi(least)
		b, _ := strconv.Atoi(most)
		return strconv.Itoa([]int{a, b, a + r.Intn(b-a+1)}[r.Intn(3)])
	}
	switch form {
	case "KEEP":
		word := ""
		for range []int{1, 2, 10, 1000}[r.Intn(4)] {
			word += strconv.Itoa(r.Intn(10))
		}
		return word
	case "SEX":
		return []string{"ewe", "ram", "wether"}[r.Intn(3)]
	case "EAR":
		e, _ := ear.FromCode(r.Intn(ear.Count()))
		word, _ := ear.Short(e)
		return word
	case "MARK":
		return someWord(r, "0..7") + "." + someWord(r, "0..63")
	}
	return form
}

func someLine(r *rand.Rand, form string) string {
	words := strings.Split(form, " ")
	for i := range words {
		words[i] = someWord(r, words[i])
	}
	return strings.Join(words, " ")
}

// wrongWords returns words that are few forms', among them one more and one less than each bound of a range.
func wrongWords(form string) []string {
	l := []string{"", " ", "x", "-1", "-0", "+1", "00", "01", "1.0", "1.", ".1", "1.2.3", "1.-1", "01.1", "1.01", "8.1", "1.64", "7.63", "0x1", "1_0", "1e1", "１", "\xff", "9223372036854775808", "18446744073709551617", "99999999999999999999999999999999", "admit", "ADMIT", "Ewe", "w...........", "w..........", "w............", "wnn.........", "W...........", "h..n........", "c....n......", "s...........", ";", "#", "\n", strings.Repeat("5", 1000), strings.Repeat("5", 1001), "12a4", "1234\n"}
	if within, ok := ranges[form]; ok {
		form = within
	}
	if least, most, ok := strings.Cut(form, ".."); ok {
		a, _ := strconv.Atoi(least)
		b, _ := strconv.Atoi(most)
		l = append(l, strconv.Itoa(a-1), least, most, strconv.Itoa(b+1), "0"+most, most+"0", most+" ", " "+most, most+"\n")
	}
	return append(l, strings.ToUpper(form), form+"s", strings.TrimSuffix(form, "s"))
}

// checkLine checks what Check and a model say of a line, and returns whether it is a command.
func checkLine(t *testing.T, line string) bool {
	t.Helper()
	is := isCommand(line)
	want := api.ErrCommand
	if is {
		want = api.OK
	}
	if err := year.Check(line); err != want {
		t.Fatalf("%.200q: %d, not %d", line, err, want)
	}
	output, err := year.New().Do(line)
	if (err == api.ErrCommand) == is || !is && output != "" {
		t.Fatalf("%.200q: %q %d", line, output, err)
	}
	return is
}

// P9.1: lines of all forms.
func TestCheck(t *testing.T) {
	r := rand.New(rand.NewSource(1))
	for _, form := range lineForms() {
		for range 40 {
			if line := someLine(r, form); !checkLine(t, line) {
				t.Fatal(line)
			}
		}
	}
	for _, heads := range []int{3, 64, 65, 200} {
		line := someLine(r, "sheet PARISH ID ID 0..15 1..16 GRAZING"+strings.Repeat(headForm, heads))
		if !checkLine(t, line) {
			t.Fatal(line)
		}
	}
}

// P9.1: lines that are wrong in one word, in one blank, or in how many words they have.
func TestCheckWrong(t *testing.T) {
	r := rand.New(rand.NewSource(2))
	commands, others := 0, 0
	check := func(words []string) {
		if checkLine(t, strings.Join(words, " ")) {
			commands++
		} else {
			others++
		}
	}
	for _, form := range lineForms() {
		words := strings.Split(someLine(r, form), " ")
		for i, f := range strings.Split(form, " ") {
			for _, wrong := range wrongWords(f) {
				changed := slices.Clone(words)
				changed[i] = wrong
				check(changed)
				check(slices.Insert(slices.Clone(words), i, wrong))
			}
			check(slices.Delete(slices.Clone(words), i, i+1))
			check(slices.Insert(slices.Clone(words), i, words[i]))
			check(words[:i])
			other := r.Intn(len(words))
			changed := slices.Clone(words)
			changed[i], changed[other] = changed[other], changed[i]
			check(changed)
		}
		line := strings.Join(words, " ")
		for _, changed := range []string{line + " ", " " + line, line + "\n", line + "\r", "\t" + line, strings.Replace(line, " ", "  ", 1), strings.ReplaceAll(line, " ", "\t"), strings.ReplaceAll(line, " ", "\u00a0"), line + " ;", line + " x", line + ";", strings.ToUpper(line), strings.ReplaceAll(line, " ", "")} {
			check([]string{changed})
		}
	}
	if commands < 300 || others < 10000 {
		t.Error(commands, others)
	}
}

// P9.1: other lines.
func TestCheckOthers(t *testing.T) {
	for _, line := range []string{
		"", " ", "\n", "#", "# day 1", ";", "help", "write", "write 0", "write 0 sheet", "write 0 sheet 1 1 0 1 0", "forge 0 1 2", "forge 0 1 admit 0 0 0 w........... w...........", "sheet", "sheet 0 1 1 0 1 0 ;", "sheet 0 1 1 0 1 0 ewe 0 0 w........... w...........",
		"sheet 0 1 1 0 1 0; ewe 0 0 w........... w...........", "sheet 0 1 1 0 1 0 ;ewe 0 0 w........... w...........", "sheet 0 1 1 0 1 0 ; ewe 0 0 w........... w........... ;", "sheet 0 1 1 0 1 0 ; ewe 0 0 w........... w........... ewe 0 0 w........... w...........",
		"sheet 0 1 1 0 1 0 ; ; ewe 0 0 w........... w...........", "sheet 0 1 1 0 1 0 ; ewe 0 0 w...........", "sheet 0 1 1 0 1 100 0", "sheet 0 1 1 0 1 100 0 ; ewe 0 0 w........... w...........",
		"sendall 0", "day", "day 0", "day 100001", "open 0", "open 0 ", "begin 1 4 0 0", "begin 0 4 0 0 7", "begin 1 4 0 0 4611686018427387905", "grazings 17",
	} {
		if checkLine(t, line) {
			t.Error(line)
		}
	}
	// A parish may stand twice in any line; whether this is possible is another question.
	for _, line := range []string{"send 3 3", "forge 7 7 0 miss 0 0 0", "agree 0 0"} {
		if !checkLine(t, line) {
			t.Error(line)
		}
	}
}
