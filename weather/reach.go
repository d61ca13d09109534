package weather

import (
	"iter"
	"slices"

	"earmark/api"
	"earmark/ear"
)

// Closure returns the ears to which at most k steps lead from e, in their order.
func Closure(e api.Ear, k int) ([]api.Ear, api.Errno) { return around(e, k, following) }

// Origins returns the valid ears from which at most k steps lead to e, in their order.
func Origins(e api.Ear, k int) ([]api.Ear, api.Errno) { return around(e, k, preceding) }

// Meet returns the least ear to which at most k steps lead from each of e and f, and whether there is one.
func Meet(e, f api.Ear, k int) (api.Ear, bool, api.Errno) {
	if err := checkEars(e, f, k); err != api.OK {
		return api.Ear{}, false, err
	}
	met, ok := firstOf(slices.Values(reachOf(e, k).ears()), reachOf(f, k).has)
	return met, ok, api.OK
}

// checkEars returns the first error of two ears and a limit.
func checkEars(e, f api.Ear, k int) api.Errno {
	if err := ear.Check(e); err != api.OK {
		return err
	}
	return checkEar(f, k)
}

// checkEar returns the first error of an ear and a limit.
func checkEar(e api.Ear, k int) api.Errno {
	if err := ear.Check(e); err != api.OK {
		return err
	}
	return checkLimit(k)
}

func checkLimit(k int) api.Errno {
	if k < 0 || k > api.MaxSteps {
		return api.ErrArg
	}
	return api.OK
}

// around returns the ears that are found if one goes from e at most k times to those beside one, in their order.
func around(e api.Ear, k int, beside func(api.Ear) []api.Ear) ([]api.Ear, api.Errno) {
	if err := checkEar(e, k); err != api.OK {
		return nil, err
	}
	l := slices.Concat(layers(e, k, beside)...)
	slices.SortFunc(l, ear.Compare)
	return l, api.OK
}

// layers returns, for each n from 0 to k, the elements that are found if one goes from start n times to those beside one, and not earlier.
func layers[T comparable](start T, k int, beside func(T) []T) [][]T {
	seen := map[T]bool{start: true}
	l := [][]T{{start}}
	for n := range k {
		var layer []T
		for _, x := range l[n] {
			for _, y := range beside(x) {
				if !seen[y] {
					seen[y] = true
					layer = append(layer, y)
				}
			}
		}
		l = append(l, layer)
	}
	return l
}

// firstOf returns the first element of l that fits, and whether there is one.
func firstOf[T any](l iter.Seq[T], fits func(T) bool) (T, bool) {
	for x := range l {
		if fits(x) {
			return x, true
		}
	}
	var none T
	return none, false
}

// reach holds the ears to which a few steps lead from an ear: the least number of steps to each of them; and, for each number, the ears to which at most so many lead, in their order.
type reach struct {
	steps map[api.Ear]int
	upTo  [][]api.Ear
}

func reachOf(e api.Ear, k int) reach {
	r := reach{steps: map[api.Ear]int{}}
	var found []api.Ear
	for n, layer := range layers(e, k, following) {
		for _, x := range layer {
			r.steps[x] = n
		}
		found = slices.Concat(found, layer)
		slices.SortFunc(found, ear.Compare)
		r.upTo = append(r.upTo, found)
	}
	return r
}

// ears returns all ears of r in their order.
func (r reach) ears() []api.Ear { return r.upTo[len(r.upTo)-1] }

func (r reach) has(e api.Ear) bool {
	_, ok := r.steps[e]
	return ok
}
