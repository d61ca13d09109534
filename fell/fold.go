package fell

import "earmark/api"

// Ever returns the grazings that a sheep from a can reach at any time.
func Ever(f api.Fell, a int) ([]int, api.Errno) {
	if err := checkAll(f, []int{a}); err != api.OK {
		return nil, err
	}
	return foldOf(f, a).list(), api.OK
}

// Folds returns the sets of grazings that are connected by gates that are open on some day.
func Folds(f api.Fell) ([][]int, api.Errno) {
	if err := Check(f); err != api.OK {
		return nil, err
	}
	return split(f, usable), api.OK
}

// Bridges returns the usable gates without which their own grazings are in different folds.
func Bridges(f api.Fell) ([]int, api.Errno) {
	if err := Check(f); err != api.OK {
		return nil, err
	}
	var l []int
	for i, g := range f.Gates {
		if usable(g) && !foldOf(without(f, []int{i}), g.A).has(g.B) {
			l = append(l, i)
		}
	}
	return l, api.OK
}

func usable(g api.Gate) bool { return g.From != g.To }

func foldOf(f api.Fell, a int) set { return spread(f, only(a), usable) }
