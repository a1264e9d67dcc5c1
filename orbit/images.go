package orbit

import (
	"slices"

	"cayley/api"
)

// Sets returns the images of a set.
func Sets(g api.Group, set []int) ([][]int, api.Errno) {
	if e := checkPoints(g, set...); e != api.OK {
		return nil, e
	}
	for i := 1; i < len(set); i++ {
		if set[i-1] >= set[i] {
			return nil, api.ErrOrder
		}
	}
	// ErrLong cannot occur: there are no more than 64 points that ascend.
	return images(g.Gens, marks(set), moveMarks, marked)
}

// Tuples returns the images of a tuple.
func Tuples(g api.Group, t []int) ([][]int, api.Errno) {
	if e := checkPoints(g, t...); e != api.OK {
		return nil, e
	}
	if len(t) > api.MaxDegree {
		return nil, api.ErrLong
	}
	move := func(x [api.MaxDegree]int, s api.Perm) [api.MaxDegree]int {
		for i := range t {
			x[i] = s[x[i]]
		}
		return x
	}
	list := func(x [api.MaxDegree]int) []int { return slices.Clone(x[:len(t)]) }
	return images(g.Gens, key(t), move, list)
}

// images returns the images of x as lists, in lexicographic order.
func images[T comparable](gens []api.Perm, x T, act func(x T, s api.Perm) T, list func(x T) []int) ([][]int, api.Errno) {
	t, e := grow(gens, x, act)
	if e != api.OK {
		return nil, e
	}
	var l [][]int
	for _, y := range t.list {
		l = append(l, list(y))
	}
	slices.SortFunc(l, slices.Compare[[]int])
	return l, api.OK
}

// marks returns a set as an array that says of each point whether it is an element: equal sets are equal keys, without being sorted.
func marks(set []int) (in [api.MaxDegree]bool) {
	for _, p := range set {
		in[p] = true
	}
	return in
}

// moveMarks returns the image of a set.
func moveMarks(in [api.MaxDegree]bool, s api.Perm) (image [api.MaxDegree]bool) {
	for p, q := range s {
		image[q] = in[p]
	}
	return image
}

// marked returns the points of a set, ascending.
func marked(in [api.MaxDegree]bool) []int {
	var set []int
	for p, is := range in {
		if is {
			set = append(set, p)
		}
	}
	return set
}
