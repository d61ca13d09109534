package ear_test

import (
	"slices"
	"testing"

	"earmark/api"
	"earmark/ear"
)

// allFeatures returns the well-formed features in the order of the places.
func allFeatures() []api.Feature {
	var l []api.Feature
	for value := 1; value <= 4; value++ {
		l = append(l, api.Feature{Kind: 1, Value: value})
	}
	for edge := range 2 {
		for at := range 4 {
			for value := 1; value <= 3; value++ {
				l = append(l, api.Feature{Kind: 2, Edge: edge, At: at, Value: value})
			}
		}
	}
	for at := range 3 {
		l = append(l, api.Feature{Kind: 3, At: at})
	}
	return l
}

// featuresOf returns the features of an ear by the chapter's table.
func featuresOf(e api.Ear) []api.Feature {
	var l []api.Feature
	for _, f := range allFeatures() {
		has := f.Kind == 1 && e.Tip == f.Value ||
			f.Kind == 2 && f.Edge == 0 && e.Upper[f.At] == f.Value ||
			f.Kind == 2 && f.Edge == 1 && e.Lower[f.At] == f.Value ||
			f.Kind == 3 && e.Holes[f.At]
		if has {
			l = append(l, f)
		}
	}
	return l
}

// turned returns l, begun at its i-th element, and then backwards.
func turned(l []api.Feature, i int) []api.Feature {
	x := append(slices.Clone(l[i:]), l[:i]...)
	slices.Reverse(x)
	return x
}

// P1.3 and P1.9: features of all ears, built again in several orders.
func TestFeaturesOfAllEars(t *testing.T) {
	for _, e := range ears() {
		l, err := ear.Features(e)
		if !slices.Equal(l, featuresOf(e)) || err != api.OK {
			t.Fatal(e, l, err)
		}
		for i := range max(len(l), 1) {
			if got, err := ear.Build(turned(l, i)); got != e || err != api.OK {
				t.Fatal(e, i, got, err)
			}
		}
		if got, err := ear.Build(l); got != e || err != api.OK {
			t.Fatal(e, got, err)
		}
	}
}

// P1.9: what remains of the features are those of another valid ear.
func TestFewerFeatures(t *testing.T) {
	for _, e := range some(61) {
		l, _ := ear.Features(e)
		for set := range 1 << len(l) {
			var part []api.Feature
			for i, f := range l {
				if set>>i&1 == 1 {
					part = append(part, f)
				}
			}
			got, err := ear.Build(part)
			if err != api.OK || ear.Check(got) != api.OK || (got == e) != (len(part) == len(l)) {
				t.Fatal(e, part, got, err)
			}
			if again, _ := ear.Features(got); !slices.Equal(again, part) {
				t.Fatal(e, part, again)
			}
		}
	}
}

// P1.3: exactly the features of the table are well-formed.
func TestBuildOfOneFeature(t *testing.T) {
	good := allFeatures()
	numbers := []int{-1 << 63, -1, 0, 1, 2, 3, 4, 5, 1 << 62}
	for _, kind := range numbers {
		for _, edge := range numbers {
			for _, at := range numbers {
				for _, value := range numbers {
					f := api.Feature{Kind: kind, Edge: edge, At: at, Value: value}
					e, err := ear.Build([]api.Feature{f})
					if !slices.Contains(good, f) && (e != (api.Ear{}) || err != api.ErrFeature) {
						t.Fatal(f, e, err)
					}
					if slices.Contains(good, f) && (!slices.Equal(featuresOf(e), []api.Feature{f}) || err != api.OK) {
						t.Fatal(f, e, err)
					}
				}
			}
		}
	}
}

// P1.3: two features of one place exclude each other; other pairs can make an invalid ear.
func TestBuildOfTwoFeatures(t *testing.T) {
	for _, f := range allFeatures() {
		for _, g := range allFeatures() {
			want := api.OK
			tip := f.Kind == 1 && f.Value >= api.Hollowed || g.Kind == 1 && g.Value >= api.Hollowed
			last := f.Kind == 2 && f.At == 3 || g.Kind == 2 && g.At == 3
			near := f.Kind == 2 && g.Kind == 2 && f.Edge == g.Edge && (f.At-g.At == 1 || g.At-f.At == 1)
			switch {
			case f.Kind == g.Kind && f.Edge == g.Edge && f.At == g.At:
				want = api.ErrFeature
			case tip && last || near:
				want = api.ErrEar
			}
			e, err := ear.Build([]api.Feature{f, g})
			if err != want || err != api.OK && e != (api.Ear{}) {
				t.Fatal(f, g, e, err)
			}
		}
	}
}

// P1.3: ErrFeature comes before ErrEar, wherever in the list its cause is.
func TestBuildErrors(t *testing.T) {
	upper := func(at, value int) api.Feature { return api.Feature{Kind: api.SlotF, At: at, Value: value} }
	cropped := api.Feature{Kind: api.TipF, Value: api.Cropped}
	hole := api.Feature{Kind: api.HoleF, At: 1}
	for i, c := range []struct {
		l    []api.Feature
		want api.Errno
	}{
		{[]api.Feature{upper(0, 1), upper(1, 1), {}}, api.ErrFeature},
		{[]api.Feature{upper(0, 1), upper(1, 1), hole, hole}, api.ErrFeature},
		{[]api.Feature{hole, upper(0, 1), upper(0, 1)}, api.ErrFeature},
		{[]api.Feature{hole, upper(0, 1), upper(0, 2)}, api.ErrFeature},
		{[]api.Feature{cropped, hole, {Kind: api.TipF, Value: api.Slit}}, api.ErrFeature},
		{[]api.Feature{cropped, hole, upper(3, 1)}, api.ErrEar},
		{[]api.Feature{upper(2, 3), hole, upper(1, 1)}, api.ErrEar},
		{nil, api.OK},
		{[]api.Feature{}, api.OK},
	} {
		if e, err := ear.Build(c.l); e != (api.Ear{}) || err != c.want {
			t.Error(i, e, err)
		}
	}
}

// P1.3, examples; and R2: the list stays as it is, and each result is new memory.
func TestBuildExample(t *testing.T) {
	l := []api.Feature{{Kind: api.HoleF, At: 1}, {Kind: api.TipF, Value: 2}}
	before := slices.Clone(l)
	e, err := ear.Build(l)
	if e != (api.Ear{Tip: api.Forked, Holes: [3]bool{false, true}}) || err != api.OK {
		t.Error(e, err)
	}
	if !slices.Equal(l, before) {
		t.Error(l)
	}
	x, _ := ear.Features(e)
	x[0] = api.Feature{}
	if y, _ := ear.Features(e); !slices.Equal(y, featuresOf(e)) {
		t.Error(y)
	}
}
