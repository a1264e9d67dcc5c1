package perm

import (
	"iter"
	"slices"

	"cayley/api"
)

// cycles enumerates the cycles of a permutation that has been checked, those of one point included, by their first points. Each is new memory: who ranges over them may keep it.
func cycles(a api.Perm) iter.Seq[[]int] {
	return func(yield func([]int) bool) {
		var seen [api.MaxDegree]bool
		for first := range a {
			var c []int
			for i := first; !seen[i]; i = a[i] {
				seen[i] = true
				c = append(c, i)
			}
			if c != nil && !yield(c) {
				return
			}
		}
	}
}

// Order returns the order of a permutation.
func Order(a api.Perm) (int, api.Errno) {
	if e := check(a); e != api.OK {
		return 0, e
	}
	// At degree 64 no order exceeds 2,042,040: the least common multiple fits into any int.
	order := 1
	for c := range cycles(a) {
		order = order / gcd(order, len(c)) * len(c)
	}
	return order, api.OK
}

func gcd(a, b int) int {
	for b != 0 {
		a, b = b, a%b
	}
	return a
}

// Cycles returns the cycles of at least two points.
func Cycles(a api.Perm) ([][]int, api.Errno) {
	if e := check(a); e != api.OK {
		return nil, e
	}
	var l [][]int
	for c := range cycles(a) {
		if len(c) > 1 {
			l = append(l, c)
		}
	}
	return l, api.OK
}

// Type returns the lengths of all cycles, in descending order.
func Type(a api.Perm) ([]int, api.Errno) {
	if e := check(a); e != api.OK {
		return nil, e
	}
	var l []int
	for c := range cycles(a) {
		l = append(l, len(c))
	}
	slices.Sort(l)
	slices.Reverse(l)
	return l, api.OK
}

// Sign returns 1 for an even permutation and -1 for an odd one.
func Sign(a api.Perm) (int, api.Errno) {
	if e := check(a); e != api.OK {
		return 0, e
	}
	sign := 1
	for c := range cycles(a) {
		if len(c)%2 == 0 {
			sign = -sign
		}
	}
	return sign, api.OK
}
