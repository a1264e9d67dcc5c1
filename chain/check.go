package chain

import (
	"iter"
	"slices"

	"cayley/api"
	"cayley/perm"
)

// Check returns the error of a chain.
func Check(c api.Chain) api.Errno {
	_, e := load(c)
	return e
}

// load returns the table of the representatives of a chain, or the error of the chain.
func load(c api.Chain) (*table, api.Errno) {
	if c.Degree < 1 || c.Degree > api.MaxDegree {
		return nil, api.ErrRange
	}
	if !hasShape(c) {
		return nil, api.ErrForm
	}
	t := newTable(c.Degree)
	for i, reps := range c.Reps {
		for _, x := range elements(reps) {
			t.enter(i, x)
		}
	}
	if !t.isLeast(c.Orbits) || !t.isGroup(c.Orbits) {
		return nil, api.ErrForm
	}
	return t, api.OK
}

// hasShape says whether a chain of a degree from 1 to 64 consists of lists of points that might be orbits, and of permutations that might represent these points.
func hasShape(c api.Chain) bool {
	if len(c.Orbits) != c.Degree || len(c.Reps) != c.Degree {
		return false
	}
	for i, orbit := range c.Orbits {
		if len(orbit) < 1 || orbit[0] != i || len(orbit) != len(c.Reps[i]) {
			return false
		}
		for k, p := range orbit {
			if k > 0 && orbit[k-1] >= p || !represents(c.Reps[i][k], c.Degree, i, p) {
				return false
			}
		}
	}
	return true
}

// represents says whether r is a permutation of the degree n that fixes the points before i and maps i to p; if p is i, whether it is the identity.
func represents(r api.Perm, n, i, p int) bool {
	if len(r) != n || perm.Check(r) != api.OK || r[i] != p {
		return false
	}
	fixed := i
	if p == i {
		fixed = n
	}
	for k, q := range r[:fixed] {
		if q != k {
			return false
		}
	}
	return true
}

// isLeast says whether each representative is the least one, if the products of the levels behind its own are a group with these orbits.
func (t *table) isLeast(orbits [][]int) bool {
	for i, orbit := range orbits {
		for _, p := range orbit {
			if t.at[i][p].to.canBeLess(i+1, orbits) {
				return false
			}
		}
	}
	return true
}

// canBeLess says whether one of the products h*x is less than x, where h is an element of the group of a level. If it is, and k is the first point that h moves, then x maps another point of the orbit of k to a lesser point than k.
func (x *element) canBeLess(level int, orbits [][]int) bool {
	for k := level; k < len(orbits); k++ {
		for _, p := range orbits[k] {
			if x[p] < x[k] {
				return true
			}
		}
	}
	return false
}

// isGroup says whether the products of entries, one of each level, the last level first, are a group, whose orbits are those given.
//
// Level by level, from the last one (which has the identity alone) on: let H be the group of the products of the levels behind i, which gens generate. With some entries of the level i they generate a group G in which the orbit of i is the one given. G has at least as many elements as there are products from the level i on; if these are mapped to such products by the generators of G, from the right, they are G, and H is the stabiliser of i.
func (t *table) isGroup(orbits [][]int) bool {
	var gens, older []*element
	for i := t.degree - 2; i >= 0; i-- {
		all := t.enough(i, orbits[i], gens)
		if len(reach(i, all)) != len(orbits[i]) {
			return false
		}
		added := all[len(gens):]
		for x, factors := range t.tests(i, orbits[i], added, gens, older) {
			for _, s := range factors {
				if !t.has(x.times(s), i) {
					return false
				}
			}
		}
		gens, older = all, gens
	}
	return true
}

// enough appends so many entries of the level i to gens that the orbit of i under all of them contains the one given.
func (t *table) enough(i int, orbit []int, gens []*element) []*element {
	for {
		reached := reach(i, gens)
		k := slices.IndexFunc(orbit, func(p int) bool { return !slices.Contains(reached, p) })
		if k < 0 {
			return gens
		}
		gens = append(gens, &t.at[i][orbit[k]].to)
	}
}

// reach returns the orbit of i under elements, in the order in which it is found.
func reach(i int, gens []*element) []int {
	points := []int{i}
	var seen [api.MaxDegree]bool
	seen[i] = true
	for k := 0; k < len(points); k++ {
		for _, s := range gens {
			if p := int(s[points[k]]); !seen[p] {
				seen[p] = true
				points = append(points, p)
			}
		}
	}
	return points
}

// tests enumerates elements and lists of factors, whose products have to sift: then the product r(p)*s of each entry of the level i with each generator sifts.
//
// For added generators, and for points p that are not in the orbit of i+1 under H, these are the products themselves. For the others it is enough that r(i+1)*t(p) is in H*r(p), where t(p) is the entry of the level i+1, and r(i+1)*u is in H*r(i+1) for each u that is one of older, which generate the stabiliser of i+1 in H: r(p)*s is in H*r(i+1)*t(p)*s; if s maps p to q, then t(p)*s is such a u times t(q), and r(i+1)*u*t(q) is in H*r(q). Without this, the chain of all permutations of 64 points would need several times as long.
func (t *table) tests(i int, orbit []int, added, gens, older []*element) iter.Seq2[*element, []*element] {
	return func(yield func(*element, []*element) bool) {
		for _, p := range orbit {
			x, factors := &t.at[i][p].to, gens
			if next := t.at[i+1][p]; p == i+1 {
				factors = older
			} else if next != nil {
				x, factors = &t.at[i][i+1].to, []*element{&next.to}
			}
			if !yield(x, factors) || !yield(&t.at[i][p].to, added) {
				return
			}
		}
	}
}
