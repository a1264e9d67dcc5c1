package chain

import (
	"math/rand"
	"slices"
	"testing"

	"cayley/api"
)

// variants returns lists of permutations that generate the same group as the generators, of which there is at least one: with elements added, exchanged, replaced by inverses and by products with others.
func variants(r *rand.Rand, g api.Group) [][]api.Perm {
	gens := g.Gens
	pick := func() int { return r.Intn(len(gens)) }
	added := append(slices.Clone(gens), mul(gens[pick()], gens[pick()]), one(g.Degree))
	turned := slices.Clone(gens)
	slices.Reverse(turned)
	shuffled := append(slices.Clone(gens), gens...)
	r.Shuffle(len(shuffled), func(i, k int) { shuffled[i], shuffled[k] = shuffled[k], shuffled[i] })
	inverted := slices.Clone(gens)
	for i, k := range inverted {
		if r.Intn(2) == 0 {
			inverted[i] = inv(k)
		}
	}
	multiplied := slices.Clone(gens)
	for i := range multiplied {
		if k := pick(); k != i {
			multiplied[i] = mul(multiplied[i], multiplied[k])
		}
	}
	return [][]api.Perm{added, turned, shuffled, inverted, multiplied}
}

// TestGenerators tests P8.7: the chain of a group does not depend on its generators.
func TestGenerators(t *testing.T) {
	t.Parallel()
	r := rand.New(rand.NewSource(87))
	groups := small()
	for _, k := range great() {
		groups = append(groups, k.g)
	}
	for _, g := range groups {
		if len(g.Gens) == 0 {
			continue
		}
		c := chainOf(g)
		for _, gens := range variants(r, g) {
			if d := must[api.Chain](t)(Make(g.Degree, gens)); !same(c, d) {
				t.Fatalf("Make(%d, %v) = %v, but Make(%d, %v) = %v", g.Degree, gens, d, g.Degree, g.Gens, c)
			}
			if len(gens) > 16 {
				continue
			}
			if d := must[api.Chain](t)(Of(api.Group{Degree: g.Degree, Gens: gens})); !same(c, d) {
				t.Fatalf("Of(%v) = %v, but Of(%v) = %v", gens, d, g, c)
			}
		}
	}
}

// TestDifferent tests that different groups have different chains: one generator more that is no element makes another chain.
func TestDifferent(t *testing.T) {
	r := rand.New(rand.NewSource(870))
	for _, g := range small() {
		c := chainOf(g)
		x := api.Perm(r.Perm(g.Degree))
		d := must[api.Chain](t)(Make(g.Degree, append(slices.Clone(g.Gens), x)))
		if is := must[bool](t)(In(c, x)); is != same(c, d) || !must[bool](t)(In(d, x)) || !must[bool](t)(Below(c, d)) || must[bool](t)(Below(d, c)) != is {
			t.Fatalf("the group %v and %v: %v and %v", g, x, c, d)
		}
	}
}

// TestProducts tests P8.9: the products of one representative of each level, the last level first, are all elements, each of them once.
func TestProducts(t *testing.T) {
	for _, g := range small() {
		n := g.Degree
		c := chainOf(g)
		products := []api.Perm{one(n)}
		for i := n - 1; i >= 0; i-- {
			var next []api.Perm
			for _, x := range products {
				for _, r := range c.Reps[i] {
					next = append(next, mul(x, r))
				}
			}
			products = next
		}
		elements := listed(n, g.Gens)
		is := map[[16]int]bool{}
		for _, a := range elements {
			is[short(a)] = true
		}
		for _, x := range products {
			if !is[short(x)] {
				t.Fatalf("%v: the product %v is no element, or occurs twice", g, x)
			}
			delete(is, short(x))
		}
		if len(is) > 0 {
			t.Fatalf("%v: %d elements are no products", g, len(is))
		}
	}
}

// TestIterators tests that the iterators end when who ranges over them does, and can be ranged over again.
func TestIterators(t *testing.T) {
	table, x := newTable(6), elementOf(parse(6, "(0 1)(2 3)(4 5)")[0])
	levels, elements := table.moved(&x, 1), random([]element{x}, []int{0, 0, 0, 0, 0, 0})
	for wanted := range 4 {
		found, made := 0, 0
		for range levels {
			if found == wanted {
				break
			}
			found++
		}
		for range elements {
			if made == wanted {
				break
			}
			made++
		}
		if found != wanted || made != min(wanted, 3) {
			t.Errorf("%d levels and %d elements, want %d", found, made, wanted)
		}
	}
}
