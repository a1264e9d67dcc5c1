package orbit

import (
	"cayley/api"
	"cayley/perm"
)

// Stab returns the Schreier generators of the stabiliser of a point.
func Stab(g api.Group, p int) ([]api.Perm, api.Errno) {
	t, e := growPoint(g, p)
	if e != api.OK {
		return nil, e
	}
	to, back := t.transversal(g)
	// The first permutation of the transversal is the identity, which is left out.
	seen := map[[api.MaxDegree]int]bool{key(to[0]): true}
	var l []api.Perm
	for i, q := range t.list {
		for _, s := range g.Gens {
			x := mul(mul(to[i], s), back[t.index[s[q]]])
			if !seen[key(x)] {
				seen[key(x)] = true
				l = append(l, x)
			}
		}
	}
	return l, api.OK
}

// transversal returns for each entry the product of the generators of its path, and the inverse of it.
func (t *tree[T]) transversal(g api.Group) (to, back []api.Perm) {
	one, _ := perm.One(g.Degree)
	to = []api.Perm{one}
	for i := 1; i < len(t.list); i++ {
		to = append(to, mul(to[t.parents[i]], g.Gens[t.gens[i]-1]))
	}
	for _, u := range to {
		inverse, _ := perm.Inv(u)
		back = append(back, inverse)
	}
	return to, back
}

// mul is perm.Mul for permutations of one group.
func mul(a, b api.Perm) api.Perm {
	product, _ := perm.Mul(a, b)
	return product
}

// key returns a list of at most 64 numbers as a key for maps. Lists of the same length have different keys.
func key(l []int) (k [api.MaxDegree]int) {
	copy(k[:], l)
	return k
}
