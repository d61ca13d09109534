package sheets_test

import (
	"math/rand"
	"slices"
	"sort"
	"testing"

	"earmark/api"
	"earmark/ear"
	"earmark/sheets"
)

// otherEars returns the valid ears that differ from e in exactly one place, by setting each place to each value.
func otherEars(e api.Ear) []api.Ear {
	var l []api.Ear
	add := func(x api.Ear) {
		if x != e && ear.Check(x) == api.OK {
			l = append(l, x)
		}
	}
	for v := range 5 {
		x := e
		x.Tip = v
		add(x)
	}
	for i := range 4 {
		for v := range 4 {
			x, y := e, e
			x.Upper[i], y.Lower[i] = v, v
			add(x)
			add(y)
		}
	}
	for i := range 3 {
		x := e
		x.Holes[i] = !x.Holes[i]
		add(x)
	}
	return l
}

// variants returns the marks that differ from m in exactly one place, in the order of layer 1.
func variants(m api.Mark) []api.Mark {
	var l []api.Mark
	for _, e := range otherEars(m.Near) {
		l = append(l, api.Mark{Near: e, Far: m.Far})
	}
	for _, e := range otherEars(m.Far) {
		l = append(l, api.Mark{Near: m.Near, Far: e})
	}
	sort.Slice(l, func(i, j int) bool { return ear.CompareMarks(l[i], l[j]) < 0 })
	return l
}

func randomMark(r *rand.Rand) api.Mark { return api.Mark{Near: randomEar(r), Far: randomEar(r)} }

// P6.4, against the plain reading.
func TestVariants(t *testing.T) {
	r := rand.New(rand.NewSource(67))
	marks := []api.Mark{whole, notched, bitten, cropped, {Near: cropped.Far, Far: cropped.Far}}
	for range 300 {
		marks = append(marks, randomMark(r))
	}
	for _, m := range marks {
		if l, err := sheets.Variants(m); !slices.Equal(l, variants(m)) || err != api.OK {
			t.Fatal(m, l, err)
		}
	}
	if l, err := sheets.Variants(whole); len(l) != 62 || err != api.OK {
		t.Error(len(l), err)
	}
	for _, m := range badMarks() {
		if l, err := sheets.Variants(m); len(l) != 0 || err != api.ErrEar {
			t.Error(m, l, err)
		}
	}
}

// P6.4: a mark is a variant of another one exactly if that one is a variant of it.
func TestVariantsBothWays(t *testing.T) {
	r := rand.New(rand.NewSource(68))
	isVariant := func(m, of api.Mark) bool {
		l, err := sheets.Variants(of)
		if err != api.OK {
			t.Fatal(of, err)
		}
		return slices.Contains(l, m)
	}
	for range 30 {
		m := randomMark(r)
		l, _ := sheets.Variants(m)
		for _, n := range l {
			if !isVariant(m, n) {
				t.Fatal(m, n)
			}
		}
		if isVariant(m, m) {
			t.Fatal(m)
		}
		for range 20 {
			a, b := l[r.Intn(len(l))], l[r.Intn(len(l))]
			if isVariant(a, b) != isVariant(b, a) {
				t.Fatal(a, b)
			}
		}
	}
}

// differing returns in how many places the marks differ.
func differing(a, b api.Mark) int {
	n := 0
	x, y := short(a.Near)+short(a.Far), short(b.Near)+short(b.Far)
	for i := range x {
		if x[i] != y[i] {
			n++
		}
	}
	return n
}

// P6.4, against the plain reading: heads that truly have their mark, one that differs in one place, or any other.
func TestFewestAndExplains(t *testing.T) {
	r := rand.New(rand.NewSource(69))
	large := 0
	for n := range 400 {
		s := randomSheet(r)
		s.Heads = nil
		var truths []api.Mark
		wrong, small := 0, true
		for range r.Intn(1 + n%65) {
			h := randomHead(r)
			truth := h.Seen
			switch r.Intn(20) {
			case 0, 1, 2, 3, 4:
				l := variants(truth)
				truth = l[r.Intn(len(l))]
			case 5:
				if n%3 == 0 {
					truth = randomMark(r)
				}
			}
			s.Heads, truths = append(s.Heads, h), append(truths, truth)
			if d := differing(h.Seen, truth); d > 0 {
				wrong++
				small = small && d == 1
			}
		}
		if !small {
			large++
		}
		if got, is, err := sheets.Fewest(s, truths); got != wrong || is != small || err != api.OK {
			t.Fatal(s, truths, got, is, err)
		}
		for most := range 65 {
			if is, err := sheets.Explains(s, truths, most); is != (small && wrong <= most) || err != api.OK {
				t.Fatal(s, truths, most, is, err)
			}
		}
	}
	if large < 50 || large > 350 {
		t.Error(large)
	}
}

// P6.4, examples.
func TestFewestExamples(t *testing.T) {
	one := part(1, 2, 0, 1, headOf(0, 0, 0, notched))
	two := part(1, 2, 0, 1, headOf(0, 0, 0, notched), headOf(0, 0, 0, whole))
	far := api.Mark{Near: bitten.Near, Far: api.Ear{Tip: api.Slit}}
	for _, x := range []struct {
		s      api.Sheet
		truths []api.Mark
		wrong  int
		small  bool
	}{
		{one, []api.Mark{notched}, 0, true},
		{one, []api.Mark{whole}, 1, true},
		{one, []api.Mark{bitten}, 1, true},
		{one, []api.Mark{{Near: notched.Near, Far: far.Far}}, 1, true},
		{one, []api.Mark{{Far: far.Far}}, 1, false},
		{one, []api.Mark{far}, 1, false},
		{two, []api.Mark{whole, notched}, 2, true},
		{two, []api.Mark{notched, whole}, 0, true},
		{two, []api.Mark{far, bitten}, 2, false},
		{two, []api.Mark{bitten, far}, 2, false},
		{two, []api.Mark{notched, far}, 1, false},
	} {
		if n, small, err := sheets.Fewest(x.s, x.truths); n != x.wrong || small != x.small || err != api.OK {
			t.Error(x, n, small, err)
		}
	}
	if is, err := sheets.Explains(one, []api.Mark{whole}, 0); is || err != api.OK {
		t.Error(is, err)
	}
	if is, err := sheets.Explains(one, []api.Mark{whole}, 1); !is || err != api.OK {
		t.Error(is, err)
	}
	if is, err := sheets.Explains(one, []api.Mark{far}, 64); is || err != api.OK {
		t.Error(is, err)
	}
}

// P6.4: the errors, in their order.
func TestFewestErrors(t *testing.T) {
	good := part(1, 2, 0, 1, headOf(0, 0, 0, notched), headOf(0, 0, 0, whole))
	check := func(s api.Sheet, truths []api.Mark, want api.Errno) {
		t.Helper()
		if n, small, err := sheets.Fewest(s, truths); n != 0 || small || err != want {
			t.Error(s, truths, n, small, err)
		}
		for _, wrong := range []int{0, 64, -1} {
			if is, err := sheets.Explains(s, truths, wrong); is || err != want {
				t.Error(s, truths, wrong, is, err)
			}
		}
	}
	for _, s := range badSheets() {
		check(s, make([]api.Mark, len(s.Heads)), api.ErrSheet)
		check(s, badMarks(), api.ErrSheet)
	}
	check(good, nil, api.ErrArg)
	check(good, []api.Mark{notched}, api.ErrArg)
	check(good, []api.Mark{notched, whole, whole}, api.ErrArg)
	check(part(1, 2, 0, 1), []api.Mark{whole}, api.ErrArg)
	for _, m := range badMarks() {
		check(good, []api.Mark{m}, api.ErrArg)
		check(good, []api.Mark{m, whole, whole}, api.ErrArg)
		check(good, []api.Mark{m, whole}, api.ErrEar)
		check(good, []api.Mark{notched, m}, api.ErrEar)
	}
	for _, wrong := range []int{least, -1, 65, most} {
		for _, truths := range [][]api.Mark{{notched, whole}, {bitten, cropped}} {
			if is, err := sheets.Explains(good, truths, wrong); is || err != api.ErrArg {
				t.Error(wrong, is, err)
			}
		}
	}
}
