package rank

import (
	"math/rand"
	"slices"
	"testing"

	"cayley/api"
	"cayley/chain"
	"cayley/perm"
)

// great returns groups of great degrees, among them some whose points are spread.
func great() []api.Chain {
	var l []api.Chain
	r := rand.New(rand.NewSource(96))
	for _, x := range sizes() {
		strong, e := chain.Strong(x.c)
		if e != api.OK {
			panic(e)
		}
		y := api.Perm(r.Perm(x.c.Degree))
		var spread []api.Perm
		for i, s := range strong {
			if s, _ = perm.Conj(s, y); i < 2 || r.Intn(1+len(strong)/16) == 0 {
				spread = append(spread, s)
			}
		}
		l = append(l, x.c, made(x.c.Degree, spread...))
	}
	mathieu := parse(24, "(0 1 2 3 4 5 6 7 8 9 10 11 12 13 14 15 16 17 18 19 20 21 22)", "(2 16 9 6 8)(3 12 13 18 4)(7 17 10 11 22)(14 19 21 20 15)", "(0 23)(1 22)(2 11)(3 15)(4 17)(5 9)(6 19)(7 13)(8 20)(10 16)(12 21)(14 18)")
	return append(l, made(24, mathieu...))
}

// some returns an element of a group.
func some(r *rand.Rand, c api.Chain) api.Perm {
	x := identity(c.Degree)
	for i := range c.Degree {
		x = times(c.Reps[i][r.Intn(len(c.Reps[i]))], x)
	}
	return x
}

// TestRanks tests P9.5: Unrank of Rank is the element, Rank of Unrank the number, a greater number has a greater element.
func TestRanks(t *testing.T) {
	t.Parallel()
	r := rand.New(rand.NewSource(97))
	for _, c := range great() {
		n, e := Size(c)
		if e != api.OK {
			continue
		}
		for range 20 {
			x, y := some(r, c), some(r, c)
			i, k := must[int](t)(Rank(c, x)), must[int](t)(Rank(c, y))
			if i < 0 || i >= n || (i < k) != (before(x, y) < 0) || (i == k) != slices.Equal(x, y) {
				t.Fatalf("of %d elements, %v has the rank %d and %v the rank %d", n, x, i, y, k)
			}
			checkRank(t, c, x, i)
			i = r.Intn(n)
			z := must[api.Perm](t)(Unrank(c, i))
			checkRank(t, c, z, i)
			if !must[bool](t)(chain.In(c, z)) || i > 0 && before(must[api.Perm](t)(Unrank(c, i-1)), z) >= 0 {
				t.Fatalf("Unrank of %d = %v", i, z)
			}
		}
	}
}

// TestLeasts tests P9.6: Least is the same for all elements of a coset, and different for different cosets; it is an element of the coset, and not greater than others.
func TestLeasts(t *testing.T) {
	t.Parallel()
	r := rand.New(rand.NewSource(98))
	groups := great()
	for _, g := range small() {
		groups = append(groups, g.c)
	}
	for _, c := range groups {
		for range 6 {
			x := api.Perm(r.Perm(c.Degree))
			least := must[api.Perm](t)(Least(c, x))
			inverse := must[api.Perm](t)(perm.Inv(least))
			if !must[bool](t)(chain.In(c, times(x, inverse))) {
				t.Fatalf("Least of %v = %v is no element of the coset", x, least)
			}
			for range 4 {
				y := times(some(r, c), x)
				if before(y, least) < 0 || !slices.Equal(least, must[api.Perm](t)(Least(c, y))) {
					t.Fatalf("%v and %v are elements of a coset, whose least one is %v", x, y, least)
				}
				y = times(x, shuffled(r, c.Degree, 0, min(c.Degree, 3)))
				if in := must[bool](t)(chain.In(c, times(y, inverse))); in != slices.Equal(least, must[api.Perm](t)(Least(c, y))) {
					t.Fatalf("%v and %v: elements of a coset, %t", x, y, in)
				}
			}
		}
	}
}

// TestPartition tests P9.7: the number of cosets is the index, and each element is in exactly one of them.
func TestPartition(t *testing.T) {
	t.Parallel()
	r := rand.New(rand.NewSource(99))
	tried := 0
	for _, d := range great() {
		for range 4 {
			// Stabilisers of few points, with another element or without, often have small indices.
			c := must[api.Chain](t)(chain.Stab(d, r.Intn(min(d.Degree, 4))))
			if x := some(r, d); r.Intn(2) == 0 {
				c = made(d.Degree, append(must[[]api.Perm](t)(chain.Strong(c)), x)...)
			}
			l, e := Cosets(c, d)
			if e == api.ErrOver {
				continue
			}
			if n := must[api.Num](t)(Index(c, d)); e != api.OK || n != decimal(len(l)) || !slices.IsSortedFunc(l, before) {
				t.Fatalf("index %s, %d cosets, error %d", n, len(l), int(e))
			}
			tried++
			for range 5 {
				y, in := some(r, d), 0
				least := must[api.Perm](t)(Least(c, y))
				for _, x := range l {
					if slices.Equal(x, least) {
						in++
					}
				}
				if in != 1 || !must[bool](t)(chain.In(d, least)) {
					t.Fatalf("%v is in %d cosets, the least element is %v", y, in, least)
				}
			}
		}
	}
	if tried < 60 {
		t.Errorf("%d pairs of groups", tried)
	}
}
