package rank

import (
	"math"
	"math/rand"
	"slices"
	"testing"

	"cayley/api"
	"cayley/perm"
)

// TestRankExamples tests P9.1 and P9.2 with the chapter's examples.
func TestRankExamples(t *testing.T) {
	s, h, z := made(4, all(4, 0, 4)...), made(4, parse(4, "(0 1)(2 3)", "(0 2)(1 3)")...), made(4, parse(4, "(2 3)")...)
	for _, x := range []struct {
		c    api.Chain
		want int
	}{{s, 24}, {h, 4}, {z, 2}} {
		if n := must[int](t)(Size(x.c)); n != x.want {
			t.Errorf("Size = %d, want %d", n, x.want)
		}
	}
	for _, x := range []struct {
		c    api.Chain
		text string
		want int
		e    api.Errno
	}{{s, "(2 3)", 1, api.OK}, {s, "(0 3)(1 2)", 23, api.OK}, {h, "(0 2)(1 3)", 2, api.OK}, {h, "(0 1)", 0, api.ErrNone}} {
		if k, e := Rank(x.c, parse(4, x.text)[0]); k != x.want || e != x.e {
			t.Errorf("Rank of %s = %d, error %d", x.text, k, int(e))
		}
	}
	for _, x := range []struct {
		c    api.Chain
		k    int
		want api.Perm
		e    api.Errno
	}{{s, 2, parse(4, "(1 2)")[0], api.OK}, {h, 3, parse(4, "(0 3)(1 2)")[0], api.OK}, {h, 4, nil, api.ErrRange}} {
		if y, e := Unrank(x.c, x.k); !slices.Equal(y, x.want) || e != x.e {
			t.Errorf("Unrank of %d = %v, error %d", x.k, y, int(e))
		}
	}
	if l := must[[]api.Perm](t)(List(h)); !samePerms(l, parse(4, "()", "(0 1)(2 3)", "(0 2)(1 3)", "(0 3)(1 2)")) {
		t.Errorf("List(h) = %v", l)
	}
}

// checkGroup tests all that P9.1 and P9.2 say of a group whose elements are known.
func checkGroup(t *testing.T, g group) {
	t.Helper()
	n := must[int](t)(Size(g.c))
	if n != len(g.elements) {
		t.Fatalf("Size(%v) = %d, want %d", g.c, n, len(g.elements))
	}
	if l := must[[]api.Perm](t)(List(g.c)); !samePerms(l, g.elements) {
		t.Fatalf("List(%v) = %v", g.c, l)
	}
	for i := 0; i < n; i += 1 + n/200 {
		if k := must[int](t)(Rank(g.c, g.elements[i])); k != i {
			t.Fatalf("Rank(%v, %v) = %d, want %d", g.c, g.elements[i], k, i)
		}
		if x := must[api.Perm](t)(Unrank(g.c, i)); !slices.Equal(x, g.elements[i]) {
			t.Fatalf("Unrank(%v, %d) = %v, want %v", g.c, i, x, g.elements[i])
		}
	}
	for _, k := range []int{math.MinInt, math.MinInt + 1, -1 << 32, -n, -2, -1, n, n + 1, 2 * n, 1 << 32, math.MaxInt - 1, math.MaxInt} {
		if x, e := Unrank(g.c, k); len(x) != 0 || e != api.ErrRange {
			t.Fatalf("Unrank(%v, %d) = %v, error %d", g.c, k, x, int(e))
		}
	}
}

// checkOthers tests P9.1: permutations have a rank if they are elements.
func checkOthers(t *testing.T, g group, l []api.Perm) {
	t.Helper()
	for _, x := range l {
		i, is := slices.BinarySearchFunc(g.elements, x, before)
		wanted := api.OK
		if !is {
			i, wanted = 0, api.ErrNone
		}
		if k, e := Rank(g.c, x); k != i || e != wanted {
			t.Fatalf("Rank(%v, %v) = %d, error %d", g.c, x, k, int(e))
		}
	}
}

// TestSubgroups tests P9.1 and P9.2 with all groups of a degree up to 5, and all permutations of this degree.
func TestSubgroups(t *testing.T) {
	t.Parallel()
	for n, wanted := range []int{0, 1, 2, 6, 30, 156} {
		if n == 0 {
			continue
		}
		every := listed(n, all(n, 0, n))
		groups := subgroups(n)
		if len(groups) != wanted {
			t.Fatalf("%d groups of degree %d", len(groups), n)
		}
		for _, g := range groups {
			checkGroup(t, g)
			checkOthers(t, g, every)
		}
	}
}

// TestSmall tests P9.1 and P9.2 with groups whose elements can be listed.
func TestSmall(t *testing.T) {
	t.Parallel()
	r := rand.New(rand.NewSource(91))
	for _, g := range small() {
		checkGroup(t, g)
		var l []api.Perm
		for range 20 {
			// Permutations that move few points are elements, or they are found not to be at a late level.
			x, y := api.Perm(r.Perm(g.c.Degree)), identity(g.c.Degree)
			i, k := r.Intn(g.c.Degree), r.Intn(g.c.Degree)
			y[i], y[k] = k, i
			l = append(l, x, y, times(g.elements[r.Intn(len(g.elements))], y))
		}
		checkOthers(t, g, l)
	}
}

// sized is a group of great degree or order, with its number of elements, which is 0 if it exceeds 10^18.
type sized struct {
	name string
	c    api.Chain
	n    int
}

// sizes returns groups of great degrees and orders. None has exactly 10^18 elements: this is no divisor of 64!, which 5^15 does not divide.
func sizes() []sized {
	// The swaps of halves of n points, of halves of the first half and so on generate a group of 2^(n-1) elements, if n is a power of 2.
	sylow := func(n, first int) []api.Perm {
		var l []api.Perm
		for step := 1; step < n; step *= 2 {
			x := identity(64)
			for i := range 2 * step {
				x[first+i] = first + (i+step)%(2*step)
			}
			l = append(l, x)
		}
		return l
	}
	return []sized{
		{"nothing of 64", made(64), 1}, {"nothing of 1", made(1), 1}, {"a swap of 64", made(64, cycle(64, 62, 2)), 2}, {"the ring of 64", made(64, cycle(64, 0, 64)), 64},
		{"all of 7", made(64, all(64, 50, 7)...), 5040}, {"all of 8", made(8, all(8, 0, 8)...), 40320}, {"all of 19", made(19, all(19, 0, 19)...), 121645100408832000}, {"all of 19, spread", made(64, all(64, 45, 19)...), 121645100408832000},
		{"all of 20", made(20, all(20, 0, 20)...), 0}, {"even ones of 20", made(20, even(20, 0, 20)...), 0}, {"even ones of 19", made(64, even(64, 3, 19)...), 60822550204416000}, {"all of 21", made(21, all(21, 0, 21)...), 0}, {"all of 63", made(64, all(64, 1, 63)...), 0}, {"all of 64", made(64, all(64, 0, 64)...), 0},
		{"less than 10^18", made(59, slices.Concat(all(59, 0, 10), all(59, 10, 9), rings(59, 19, 3, 3, 3, 3, 3, 5, 5, 5, 5, 5))...), 999959385600000000},
		{"less than 10^18, turned", made(59, slices.Concat(rings(59, 0, 5, 5, 5, 5, 5, 3, 3, 3, 3, 3), all(59, 40, 9), all(59, 49, 10))...), 999959385600000000},
		{"more than 10^18", made(62, slices.Concat(all(62, 0, 13), all(62, 13, 6), rings(62, 19, 2, 3, 3, 3, 3, 3, 3, 3, 3, 17))...), 0},
		{"more than 10^18, turned", made(62, slices.Concat(rings(62, 0, 17, 3, 3, 3, 3, 3, 3, 3, 3, 2), all(62, 43, 6), all(62, 49, 13))...), 0},
		// In 64 bits, these products would wrap around to numbers that are negative, and positive but too small.
		{"19!*8*12", made(64, append(all(64, 0, 19), rings(64, 19, 8, 12)...)...), 0}, {"19!*8*19", made(64, append(all(64, 0, 19), rings(64, 19, 8, 19)...)...), 0},
		{"2^31", made(64, sylow(32, 32)...), 1 << 31}, {"2^59", made(64, slices.Concat(sylow(32, 32), sylow(16, 16), sylow(8, 8), sylow(4, 4), sylow(4, 0))...), 1 << 59},
		{"2^60", made(64, slices.Concat(sylow(32, 32), sylow(16, 16), sylow(8, 8), sylow(8, 0))...), 0}, {"2^62", made(64, slices.Concat(sylow(32, 32), sylow(32, 0))...), 0}, {"2^63", made(64, sylow(64, 0)...), 0},
	}
}

// TestSizes tests P9.1: numbers of elements up to 10^18; for greater ones Size, Rank and Unrank return ErrOver before they look at elements and ranks.
func TestSizes(t *testing.T) {
	t.Parallel()
	for _, x := range sizes() {
		wanted := api.OK
		if x.n == 0 {
			wanted = api.ErrOver
		}
		if n, e := Size(x.c); n != x.n || e != wanted {
			t.Errorf("%s: Size = %d, error %d", x.name, n, int(e))
		}
		d := x.c.Degree
		if k, e := Rank(x.c, identity(d)); k != 0 || e != wanted {
			t.Errorf("%s: Rank of the identity = %d, error %d", x.name, k, int(e))
		}
		if y, e := Unrank(x.c, 0); e != wanted || e == api.OK && !slices.Equal(y, identity(d)) || e != api.OK && len(y) > 0 {
			t.Errorf("%s: Unrank of 0 = %v, error %d", x.name, y, int(e))
		}
		if wanted == api.OK {
			wanted = api.ErrRange
			last := must[api.Perm](t)(Unrank(x.c, x.n-1))
			if k, e := Rank(x.c, last); k != x.n-1 || e != api.OK {
				t.Errorf("%s: the last element %v has the rank %d, error %d", x.name, last, k, int(e))
			}
		}
		for _, k := range []int{-1, math.MinInt, math.MaxInt, max(x.n, 1)} {
			if y, e := Unrank(x.c, k); len(y) > 0 || e != wanted {
				t.Errorf("%s: Unrank of %d = %v, error %d", x.name, k, y, int(e))
			}
		}
		if len(x.c.Orbits[0]) == d {
			continue
		}
		// No element takes 0 to all points.
		if wanted = api.ErrNone; x.n == 0 {
			wanted = api.ErrOver
		}
		if k, e := Rank(x.c, cycle(d, 0, d)); k != 0 || e != wanted {
			t.Errorf("%s: Rank of a ring = %d, error %d", x.name, k, int(e))
		}
	}
}

// lehmer returns the rank of a permutation among all permutations of its points.
func lehmer(x []int) int {
	rank := 0
	for i, p := range x {
		less := 0
		for _, q := range x[i+1:] {
			if q < p {
				less++
			}
		}
		rank = rank*(len(x)-i) + less
	}
	return rank
}

// shuffled returns a permutation of degree n that moves just length points from first on.
func shuffled(r *rand.Rand, n, first, length int) api.Perm {
	x := identity(n)
	r.Shuffle(length, func(i, k int) { x[first+i], x[first+k] = x[first+k], x[first+i] })
	return x
}

// checkRank reports an element whose rank is not the given one.
func checkRank(t *testing.T, c api.Chain, x api.Perm, wanted int) {
	t.Helper()
	if k := must[int](t)(Rank(c, x)); k != wanted {
		t.Fatalf("Rank of %v = %d, want %d", x, k, wanted)
	}
	if y := must[api.Perm](t)(Unrank(c, wanted)); !slices.Equal(x, y) {
		t.Fatalf("Unrank of %d = %v, want %v", wanted, y, x)
	}
}

// TestGreat tests P9.1: ranks in great groups, for which there are formulas.
func TestGreat(t *testing.T) {
	t.Parallel()
	r := rand.New(rand.NewSource(92))
	most, evens, ring := made(64, all(64, 20, 19)...), made(64, even(64, 20, 19)...), made(64, cycle(64, 0, 64))
	parts := made(64, slices.Concat(all(64, 1, 10), rings(64, 12, 40), all(64, 52, 9))...)
	turn := identity(64)
	for range 300 {
		x := shuffled(r, 64, 20, 19)
		checkRank(t, most, x, lehmer(x[20:39]))
		// Of the permutations with the same images but the last two, one is even.
		if k, e := Rank(evens, x); must[int](t)(perm.Sign(x)) < 0 && (k != 0 || e != api.ErrNone) {
			t.Fatalf("Rank of the odd %v = %d, error %d", x, k, int(e))
		} else if must[int](t)(perm.Sign(x)) > 0 {
			checkRank(t, evens, x, lehmer(x[20:39])/2)
		}
		turn = times(turn, cycle(64, 0, 64))
		checkRank(t, ring, turn, turn[0])
		x, y, k := shuffled(r, 64, 1, 10), shuffled(r, 64, 52, 9), r.Intn(40)
		z := must[api.Perm](t)(perm.Pow(cycle(64, 12, 40), k))
		checkRank(t, parts, times(x, y, z), (lehmer(x[1:11])*40+k)*362880+lehmer(y[52:61]))
	}
}

// TestBackwards tests P9.1: the element that turns all points around is the last one of all permutations.
func TestBackwards(t *testing.T) {
	n := 1
	for d := 1; d <= 19; d++ {
		n *= d
		x := identity(d)
		slices.Reverse(x)
		checkRank(t, made(d, all(d, 0, d)...), x, n-1)
	}
}

// TestListBound tests P9.2: List returns at most 5,040 elements. There are no groups of 5,041 to 5,045 elements up to the degree 64.
func TestListBound(t *testing.T) {
	t.Parallel()
	for _, x := range []struct {
		name string
		c    api.Chain
		n    int
	}{
		{"all of 7", made(7, all(7, 0, 7)...), 5040}, {"all of 7 at the end", made(64, all(64, 57, 7)...), 5040}, {"5,040", made(64, rings(64, 0, 9, 5, 7, 16)...), 5040}, {"5,040 by small levels", made(29, rings(29, 0, 2, 2, 2, 2, 3, 3, 5, 7)...), 5040}, {"5,000", made(64, rings(64, 0, 5, 5, 5, 5, 8)...), 5000},
		{"5,046", made(64, rings(64, 0, 29, 29, 2, 3)...), 0}, {"5,046, turned", made(64, rings(64, 0, 2, 3, 29, 29)...), 0}, {"5,760", made(64, slices.Concat(all(64, 0, 6), rings(64, 50, 8))...), 0},
		{"all of 8", made(8, all(8, 0, 8)...), 0}, {"even ones of 8", made(8, even(8, 0, 8)...), 0}, {"all of 20", made(20, all(20, 0, 20)...), 0}, {"all of 64", made(64, all(64, 0, 64)...), 0}, {"2^32", made(64, rings(64, 0, slices.Repeat([]int{2}, 32)...)...), 0},
	} {
		l, e := List(x.c)
		if x.n == 0 {
			if len(l) != 0 || e != api.ErrOver {
				t.Errorf("%s: %d elements, error %d", x.name, len(l), int(e))
			}
			continue
		}
		if len(l) != x.n || e != api.OK || !slices.IsSortedFunc(l, before) {
			t.Errorf("%s: %d elements, error %d", x.name, len(l), int(e))
			continue
		}
		for k, y := range l {
			if k > 0 && before(l[k-1], y) == 0 {
				t.Fatalf("%s: %v occurs twice", x.name, y)
			}
			if k%97 == 0 {
				checkRank(t, x.c, y, k)
			}
		}
	}
}

// TestElements tests that the iterator ends when who ranges over it does, and can be ranged over again; what it yields may be changed.
func TestElements(t *testing.T) {
	c := made(5, all(5, 0, 4)...)
	l := elements(c, 0, identity(5))
	for wanted := range 26 {
		found := 0
		for range l {
			if found == wanted {
				break
			}
			found++
		}
		if found != min(wanted, 24) {
			t.Errorf("%d elements, want %d", found, wanted)
		}
	}
	k := 0
	for x := range l {
		if !slices.Equal(x, must[api.Perm](t)(Unrank(c, k))) {
			t.Errorf("the element %d is %v", k, x)
		}
		clear(x)
		k++
	}
}
