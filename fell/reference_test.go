package fell_test

import (
	"slices"
	"testing"

	"earmark/api"
)

// The tests compare the package with a plain reading of the chapter: a table of the days on which gates are open, and sheep that are followed day after day.

// days16 are 16 years.
const days16 = 16 * api.YearDays

type grid [api.MaxGrazings][api.MaxGrazings]bool

// tables are a fell, for each gate and each day of a year whether it is open, and for each day of a year which grazings are connected.
type tables struct {
	f     api.Fell
	open  [][api.YearDays]bool
	joins [api.YearDays]grid
}

func tablesOf(f api.Fell) *tables {
	t := &tables{f: f, open: make([][api.YearDays]bool, len(f.Gates))}
	for i, g := range f.Gates {
		for y := g.From; y != g.To; y = (y + 1) % api.YearDays {
			t.open[i][y] = true
		}
	}
	for y := range t.joins {
		t.joins[y] = t.connected(func(i int) bool { return t.open[i][y] })
	}
	return t
}

// connected tells which grazings are connected by the gates that serve.
func (t *tables) connected(serves func(int) bool) grid {
	var c grid
	for a := range t.f.Grazings {
		c[a][a] = true
	}
	for i, g := range t.f.Gates {
		if serves(i) {
			c[g.A][g.B], c[g.B][g.A] = true, true
		}
	}
	for z := range c {
		for x := range c {
			for y := range c {
				c[x][y] = c[x][y] || c[x][z] && c[z][y]
			}
		}
	}
	return c
}

// folds tells which grazings are connected by gates that are open on some day, if none of shut is.
func (t *tables) folds(shut []int) grid {
	return t.connected(func(i int) bool { return !slices.Contains(shut, i) && slices.Contains(t.open[i][:], true) })
}

type places [api.MaxGrazings]bool

func (p places) list() []int {
	var l []int
	for a, is := range p {
		if is {
			l = append(l, a)
		}
	}
	return l
}

// after returns where sheep can be at the end of a day that are at p at its beginning.
func (t *tables) after(p places, day int) places {
	var made places
	for x, is := range p {
		if !is {
			continue
		}
		for y, joined := range t.joins[day%api.YearDays][x] {
			made[y] = made[y] || joined
		}
	}
	return made
}

// ends returns, for each day from the first to the last one, where sheep can be at its end that are in a at the beginning of the first one.
func (t *tables) ends(a, from, to int) []places {
	var p places
	p[a] = true
	var l []places
	for day := from; day <= to; day++ {
		p = t.after(p, day)
		l = append(l, p)
	}
	return l
}

// earliest returns the first day at the end of which a sheep from a can be in b. It gives up after 16 years.
func (t *tables) earliest(a, b, from int) (int, bool) {
	var p places
	p[a] = true
	for day := from; day <= min(from+days16, api.MaxDay); day++ {
		p = t.after(p, day)
		if p[b] {
			return day, true
		}
	}
	return 0, false
}

func (t *tables) meeting(a, b, from, to int) (int, int, bool) {
	p, q := t.ends(a, from, to), t.ends(b, from, to)
	for n := range p {
		for x := range t.f.Grazings {
			if p[n][x] && q[n][x] {
				return from + n, x, true
			}
		}
	}
	return 0, 0, false
}

// trail is a list of passes.
type trail struct {
	pass api.Pass
	rest *trail
}

// path returns the first path from a to b on these days. It goes back day by day, and keeps for each number of passes and each grazing the first path to b.
func (t *tables) path(a, b, from, to int) ([]api.Pass, bool) {
	var best [api.MaxGrazings][api.MaxGrazings]*trail
	best[0][b] = &trail{}
	for day := to; day >= from; day-- {
		for n := 1; n < len(best); n++ {
			for i, g := range slices.Backward(t.f.Gates) {
				if !t.open[i][day%api.YearDays] {
					continue
				}
				for _, x := range [][2]int{{g.A, g.B}, {g.B, g.A}} {
					rest := best[n-1][x[1]]
					if rest == nil {
						continue
					}
					if old := best[n][x[0]]; old == nil || old.pass.Day > day || old.pass.Gate >= i {
						best[n][x[0]] = &trail{api.Pass{Day: day, Gate: i}, rest}
					}
				}
			}
		}
	}
	for n := range best {
		if p := best[n][a]; p != nil {
			var l []api.Pass
			for range n {
				l = append(l, p.pass)
				p = p.rest
			}
			return l, true
		}
	}
	return nil, false
}

// isPath reports whether l is a path from a to b on these days.
func (t *tables) isPath(a, b, from, to int, l []api.Pass) bool {
	for i, p := range l {
		if p.Day < from || p.Day > to || i > 0 && p.Day < l[i-1].Day || p.Gate < 0 || p.Gate >= len(t.f.Gates) || !t.open[p.Gate][p.Day%api.YearDays] {
			return false
		}
		g := t.f.Gates[p.Gate]
		if g.A != a && g.B != a {
			return false
		}
		a = g.A + g.B - a
	}
	return a == b
}

// dice are numbers that look like thrown ones, and are always the same.
type dice uint64

func (d *dice) below(n int) int {
	*d = *d*6364136223846793005 + 1442695040888963407
	return int(*d>>33) % n
}

// thrown returns a fell with so many grazings and gates, each of which is open on fewer than wide days of a year.
func thrown(d *dice, grazings, gates, wide int) api.Fell {
	f := api.Fell{Grazings: grazings}
	for range gates {
		a := d.below(grazings - 1)
		b := a + 1 + d.below(grazings-1-a)
		from := d.below(api.YearDays)
		f.Gates = append(f.Gates, api.Gate{A: a, B: b, From: from, To: (from + d.below(wide)) % api.YearDays})
	}
	return f
}

func exampleFell() api.Fell {
	return api.Fell{Grazings: 4, Gates: []api.Gate{
		{A: 0, B: 1, From: 100, To: 200},
		{A: 1, B: 2, From: 150, To: 160},
		{A: 1, B: 2, From: 300, To: 20},
		{A: 2, B: 3, From: 5, To: 5},
	}}
}

// slow is a fell on which each gate opens after the next one has shut: it takes until the 15th year to get from grazing 0 to the last one, and less than one to get back.
func slow() api.Fell {
	f := api.Fell{Grazings: api.MaxGrazings}
	for a := range api.MaxGrazings - 1 {
		f.Gates = append(f.Gates, api.Gate{A: a, B: a + 1, From: 200 - 10*a, To: 201 - 10*a})
	}
	return f
}

// ring is a fell whose gates lead around it, all of them open on all days but one.
func ring(n int) api.Fell {
	f := api.Fell{Grazings: n, Gates: []api.Gate{{A: 0, B: n - 1, From: 1, To: 0}}}
	for a := range n - 1 {
		f.Gates = append(f.Gates, api.Gate{A: a, B: a + 1, From: 1, To: 0})
	}
	return f
}

// someFells are fells of all sizes.
func someFells() []api.Fell {
	parallel := api.Fell{Grazings: 2}
	for i := range api.MaxGates {
		parallel.Gates = append(parallel.Gates, api.Gate{A: 0, B: 1, From: 11 * i, To: 11*i + i%5})
	}
	l := []api.Fell{
		exampleFell(), slow(), ring(3), ring(16), parallel,
		{Grazings: 1}, {Grazings: 2}, {Grazings: api.MaxGrazings},
		{Grazings: 2, Gates: []api.Gate{{A: 0, B: 1, From: 359, To: 0}}},
		{Grazings: 3, Gates: []api.Gate{{A: 1, B: 2, From: 0, To: 1}, {A: 0, B: 2, From: 7, To: 7}, {A: 0, B: 1, From: 358, To: 359}}},
		{Grazings: 16, Gates: []api.Gate{{A: 14, B: 15, From: 0, To: 359}, {A: 0, B: 15, From: 30, To: 3}}},
		// Shutting many gates at the one end, or few at the other one; two sets with one gate each.
		{Grazings: 4, Gates: []api.Gate{{A: 0, B: 1, From: 0, To: 9}, {A: 2, B: 3, From: 0, To: 9}, {A: 1, B: 2, From: 0, To: 9}, {A: 1, B: 2, From: 4, To: 4}, {A: 0, B: 1, From: 4, To: 4}}},
	}
	d := dice(4)
	for i := range 60 {
		n := 2 + d.below(15)
		if i%2 == 0 {
			n = 2 + d.below(5)
		}
		l = append(l, thrown(&d, n, d.below(api.MaxGates+1), []int{2, 4, 30, 359}[i%4]))
	}
	return l
}

// smallFells are fells with few gates, for tests that try out much.
func smallFells() []api.Fell {
	var l []api.Fell
	for _, f := range someFells() {
		if len(f.Gates) <= 10 {
			l = append(l, f)
		}
	}
	d := dice(9)
	for i := range 60 {
		l = append(l, thrown(&d, 3+i%4, 2+d.below(9), []int{3, 100, 359}[i%3]))
	}
	return l
}

func sameSets(a, b [][]int) bool { return slices.EqualFunc(a, b, slices.Equal[[]int]) }

// classes are the sets of a grid of connected grazings, as lists, ordered by their least elements.
func classes(c grid) [][]int {
	var l [][]int
	for a := range c {
		first := slices.Index(c[a][:], true)
		if first == a {
			l = append(l, places(c[a]).list())
		}
	}
	return l
}

func clone(f api.Fell) api.Fell {
	f.Gates = slices.Clone(f.Gates)
	return f
}

func sameFell(f, g api.Fell) bool { return f.Grazings == g.Grazings && slices.Equal(f.Gates, g.Gates) }

// The reference knows the example of the chapter.
func TestReference(t *testing.T) {
	r := tablesOf(exampleFell())
	if got := classes(r.joins[150]); !sameSets(got, [][]int{{0, 1, 2}, {3}}) {
		t.Error(got)
	}
	if got := classes(r.folds(nil)); !sameSets(got, [][]int{{0, 1, 2}, {3}}) {
		t.Error(got)
	}
	if got := r.ends(0, 0, 120)[120].list(); !slices.Equal(got, []int{0, 1}) {
		t.Error(got)
	}
	if got, ok := r.path(0, 2, 0, 150); !ok || !slices.Equal(got, []api.Pass{{Day: 100, Gate: 0}, {Day: 150, Gate: 1}}) {
		t.Error(got, ok)
	}
	if day, x, ok := r.meeting(0, 2, 0, 120); day != 100 || x != 0 || !ok {
		t.Error(day, x, ok)
	}
	if n := len(smallFells()); n < 70 {
		t.Error(n)
	}
}
