package knife_test

import (
	"slices"
	"testing"

	"earmark/api"
	"earmark/ear"
	"earmark/knife"
)

// leastOf returns the least mark that is in both sets.
func leastOf(a, b map[pair]bool) (api.Mark, bool) {
	var both []pair
	for p := range a {
		if b[p] {
			both = append(both, p)
		}
	}
	if len(both) == 0 {
		return api.Mark{}, false
	}
	return slices.MinFunc(both, comparePairs).mark(), true
}

// checkClash checks Clash and Apart of two marks in both orders, and if their ears are exchanged.
func checkClash(t *testing.T, m, n api.Mark, b api.Budget, want api.Mark, ok bool) {
	t.Helper()
	for _, x := range [][2]api.Mark{{m, n}, {n, m}} {
		if got, is, err := knife.Clash(x[0], x[1], b); got != want || is != ok || err != api.OK {
			t.Fatal(x, b, got, is, err, want, ok)
		}
		if apart, err := knife.Apart(x[0], x[1], b); apart == ok || err != api.OK {
			t.Fatal(x, b, apart, err)
		}
		if apart, err := knife.Apart(ear.Swap(x[0]), ear.Swap(x[1]), b); apart == ok || err != api.OK {
			t.Fatal(x, b, apart, err)
		}
	}
}

// P3.5: by all marks that both can come to look like.
func TestClashAndApart(t *testing.T) {
	found := map[bool]int{}
	for _, b := range budgets() {
		l := someMarks()
		if b.Weather+b.Cuts < 3 {
			for i, e := range every(9001) {
				l = append(l, api.Mark{Near: e, Far: rich()[i]}, api.Mark{Near: rich()[i+1], Far: e})
			}
		}
		var sets []map[pair]bool
		for _, m := range l {
			sets = append(sets, looks(m, b))
		}
		for i, m := range l {
			for j, n := range l[:i+1] {
				want, ok := leastOf(sets[i], sets[j])
				found[ok]++
				checkClash(t, m, n, b, want, ok)
			}
		}
	}
	if found[true] < 100 || found[false] < 100 {
		t.Error(found)
	}
}

// P3.5: marks a few changes away from each other, with the same ears or with others.
func TestClashOfMarksThatAreAlike(t *testing.T) {
	found := map[bool]int{}
	for _, b := range []api.Budget{budget(1, 0), budget(0, 1), budget(1, 1)} {
		for i, m := range someMarks() {
			set := looks(m, b)
			var l []pair
			for p := range looks(m, budget(1, 2)) {
				l = append(l, p)
			}
			slices.SortFunc(l, comparePairs)
			for at := i; at < len(l); at += 1 + len(l)/40 {
				n := l[at].mark()
				want, ok := leastOf(set, looks(n, b))
				found[ok]++
				checkClash(t, m, n, b, want, ok)
			}
		}
	}
	if found[true] < 100 || found[false] < 100 {
		t.Error(found)
	}
}

// P3.5: the least mark takes the changes of both ears into account.
func TestClashSharesTheBudget(t *testing.T) {
	for _, x := range []struct {
		m, n string
		b    api.Budget
		want string
	}{
		{"near: whole; far: whole", "near: upper notch 1; far: whole", budget(1, 0), "near: whole; far: whole"},
		{"near: whole; far: whole", "near: upper notch 1; far: whole", budget(0, 0), ""},
		{"near: whole; far: whole", "near: upper notch 1; far: whole", budget(0, 1), "near: upper notch 1; far: whole"},
		{"near: whole; far: whole", "near: upper bit 1; far: whole", budget(3, 0), ""},
		{"near: slit; far: slit", "near: whole; far: whole", budget(1, 0), ""},
		{"near: slit; far: slit", "near: whole; far: whole", budget(2, 0), "near: whole; far: whole"},
		{"near: slit; far: slit", "near: slit; far: slit", budget(1, 0), "near: whole; far: slit"},
		{"near: slit; far: slit", "near: slit; far: slit", budget(2, 0), "near: whole; far: whole"},
		{"near: slit; far: slit", "near: slit; far: slit", budget(0, 2), "near: slit; far: slit"},
		{"near: slit; far: whole", "near: whole; far: slit", budget(1, 0), "near: whole; far: whole"},
		{"near: slit; far: forked", "near: forked; far: slit", budget(1, 0), ""},
		{"near: slit; far: forked", "near: forked; far: slit", budget(0, 1), "near: forked; far: forked"},
		{"near: slit; far: forked", "near: forked; far: slit", budget(2, 0), "near: cropped; far: cropped"},
		{"near: slit; far: forked", "near: forked; far: slit", budget(1, 1), "near: forked; far: forked"},
		{"near: upper key 0; far: whole", "near: upper key 1; far: whole", budget(0, 3), ""},
		{"near: upper bit 3; far: whole", "near: lower key 3; far: whole", budget(1, 0), "near: cropped; far: whole"},
		{"near: hole 0; far: hole 1", "near: hole 1; far: hole 0", budget(1, 0), ""},
		{"near: hole 0; far: hole 1", "near: hole 1; far: hole 0", budget(2, 0), "near: whole; far: whole"},
		{"near: hole 0; far: hole 1", "near: hole 1; far: hole 0", budget(1, 1), "near: whole; far: hole 0, hole 1"},
		{"near: hole 0; far: hole 1", "near: hole 1; far: hole 0", budget(0, 2), "near: hole 0, hole 1; far: hole 0, hole 1"},
		{"near: upper key 0, upper bit 2; far: whole", "near: upper key 1; far: whole", budget(1, 0), "near: upper key 1; far: whole"},
		{"near: upper key 0; far: whole", "near: upper key 1; far: whole", budget(1, 1), "near: upper key 1; far: whole"},
	} {
		want := api.Mark{}
		if x.want != "" {
			want = markOf(x.want)
		}
		checkClash(t, markOf(x.m), markOf(x.n), x.b, want, x.want != "")
	}
}

// P3.5: every mark clashes with itself.
func TestMarksClashWithThemselves(t *testing.T) {
	l := append(every(3001), rich()...)
	for i, e := range l {
		m := api.Mark{Near: e, Far: l[(i*5+1)%len(l)]}
		for _, b := range budgets() {
			shape, ok, err := knife.Clash(m, m, b)
			apart, err2 := knife.Apart(m, m, b)
			if !ok || apart || err != api.OK || err2 != api.OK || ear.CompareMarks(shape, m) > 0 {
				t.Fatal(m, b, shape, ok, apart, err, err2)
			}
			if b == budget(0, 0) && shape != m {
				t.Fatal(m, shape)
			}
		}
	}
}

// P3.5: a larger budget keeps clashes, the shape can be come to look like, and marks are apart exactly if no mark can be mistaken for the other one.
func TestLargerBudgetsKeepClashes(t *testing.T) {
	for _, m := range someMarks() {
		for _, n := range someMarks() {
			for _, b := range budgets() {
				shape, ok, _ := knife.Clash(m, n, b)
				if !ok {
					continue
				}
				isM, _ := knife.Looks(m, shape, b)
				isN, _ := knife.Looks(n, shape, b)
				if !isM || !isN {
					t.Fatal(m, n, b, shape)
				}
				for _, more := range budgets() {
					if more.Weather < b.Weather || more.Cuts < b.Cuts {
						continue
					}
					if apart, _ := knife.Apart(m, n, more); apart {
						t.Fatal(m, n, b, more)
					}
				}
			}
		}
	}
}
