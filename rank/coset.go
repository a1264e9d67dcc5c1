package rank

import (
	"cmp"
	"slices"
	"strconv"

	"cayley/api"
	"cayley/chain"
	"cayley/perm"
)

// Least returns the least element of the coset of a group and a permutation.
func Least(c api.Chain, x api.Perm) (api.Perm, api.Errno) {
	if e := check(c, x); e != api.OK {
		return nil, e
	}
	return least(c, slices.Clone(x)), api.OK
}

// least is Least for arguments that have been checked; it may return x itself. Each level in turn gives its point the least image that is possible without changing the images of the points before it.
func least(c api.Chain, x api.Perm) api.Perm {
	for i, orbit := range c.Orbits {
		if k := leastAt(x, orbit); k > 0 {
			x = mul(c.Reps[i][k], x)
		}
	}
	return x
}

// leastAt returns the index of the place, of some, at which a value is least.
func leastAt[T cmp.Ordered](values []T, places []int) int {
	best := 0
	for k, p := range places {
		if values[p] < values[places[best]] {
			best = k
		}
	}
	return best
}

// Index returns the index of a group in another one.
func Index(c, d api.Chain) (api.Num, api.Errno) {
	below, e := chain.Below(c, d)
	if e != api.OK {
		return "", e
	}
	if !below {
		return "", api.ErrNone
	}
	n, _ := chain.Order(d)
	for _, orbit := range c.Orbits {
		n, _ = perm.Ratio(n, len(orbit))
	}
	return n, api.OK
}

// Cosets returns the least elements of all cosets of a group in another one.
func Cosets(c, d api.Chain) ([]api.Perm, api.Errno) {
	index, e := Index(c, d)
	if e != api.OK {
		return nil, e
	}
	count, err := strconv.Atoi(string(index))
	if err != nil || count > api.MaxList {
		return nil, api.ErrOver
	}
	// The generators take the cosets to each other, and the first one to all of them.
	gens := generators(d)
	l := []api.Perm{one(c.Degree)}
	found := map[[api.MaxDegree]uint8]bool{key(l[0]): true}
	for i := 0; len(l) < count; i++ {
		for _, s := range gens {
			if x := least(c, mul(l[i], s)); !found[key(x)] {
				found[key(x)] = true
				l = append(l, x)
			}
		}
	}
	slices.SortFunc(l, perm.Cmp)
	return l, api.OK
}

// key returns a permutation as a key for maps, among permutations of its degree.
func key(x api.Perm) (k [api.MaxDegree]uint8) {
	for i, p := range x {
		k[i] = uint8(p)
	}
	return k
}

// generators returns some representatives that generate the group: they are much fewer than all of them, which would do, too. From the last level on, they generate the stabiliser of the level's point once they reach all points of its orbit, since they generate the group of the next level already.
func generators(c api.Chain) []api.Perm {
	var gens []api.Perm
	for i := c.Degree - 1; i >= 0; i-- {
		reached := reach(gens, i)
		for k, p := range c.Orbits[i] {
			if !reached[p] {
				gens = append(gens, c.Reps[i][k])
				reached = reach(gens, i)
			}
		}
	}
	return gens
}

// reach says which points are in the orbit of p under permutations.
func reach(gens []api.Perm, p int) (in [api.MaxDegree]bool) {
	in[p] = true
	for points := []int{p}; len(points) > 0; points = points[1:] {
		for _, s := range gens {
			if q := s[points[0]]; !in[q] {
				in[q] = true
				points = append(points, q)
			}
		}
	}
	return in
}
