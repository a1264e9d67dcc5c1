package chain

import (
	"math"
	"math/rand"
	"slices"
	"testing"

	"cayley/api"
	"cayley/orbit"
	"cayley/perm"
)

// TestExamples tests P8.1 with the chapter's examples.
func TestExamples(t *testing.T) {
	h := must[api.Chain](t)(Of(four()))
	wanted := api.Chain{
		Degree: 4,
		Orbits: [][]int{{0, 1, 2, 3}, {1}, {2}, {3}},
		Reps:   [][]api.Perm{parse(4, "()", "(0 1)(2 3)", "(0 2)(1 3)", "(0 3)(1 2)"), parse(4, "()"), parse(4, "()"), parse(4, "()")},
	}
	if !same(h, wanted) {
		t.Errorf("Of(h) = %v", h)
	}
	g := must[api.Chain](t)(Of(of(4, "(0 1 2)", "(2 3)")))
	wanted = api.Chain{
		Degree: 4,
		Orbits: [][]int{{0, 1, 2, 3}, {1, 2, 3}, {2, 3}, {3}},
		Reps:   [][]api.Perm{parse(4, "()", "(0 1)", "(0 2 1)", "(0 3 2 1)"), parse(4, "()", "(1 2)", "(1 3 2)"), parse(4, "()", "(2 3)"), parse(4, "()")},
	}
	if !same(g, wanted) {
		t.Errorf("Of(g) = %v", g)
	}
}

// TestTrivial tests P8.1: the chain of the identity alone, of each degree, from no generators and from identities.
func TestTrivial(t *testing.T) {
	for n := 1; n <= 64; n++ {
		c := api.Chain{Degree: n}
		for i := range n {
			c.Orbits, c.Reps = append(c.Orbits, []int{i}), append(c.Reps, []api.Perm{one(n)})
		}
		for _, l := range [][]api.Perm{nil, {}, {one(n)}, {one(n), one(n)}, slices.Repeat([]api.Perm{one(n)}, 16)} {
			if got := must[api.Chain](t)(Make(n, l)); !same(got, c) {
				t.Fatalf("Make(%d, %d identities) = %v", n, len(l), got)
			}
			if got := must[api.Chain](t)(Of(api.Group{Degree: n, Gens: l})); !same(got, c) {
				t.Fatalf("Of %d identities of degree %d = %v", len(l), n, got)
			}
		}
	}
}

// TestSmall tests P8.1: the chains of many groups, against the lists of their elements.
func TestSmall(t *testing.T) {
	for _, g := range small() {
		wanted := textbook(g.Degree, listed(g.Degree, g.Gens))
		if c := must[api.Chain](t)(Of(g)); !same(c, wanted) {
			t.Fatalf("Of(%v) = %v, want %v", g, c, wanted)
		}
		if c := must[api.Chain](t)(Make(g.Degree, g.Gens)); !same(c, wanted) {
			t.Fatalf("Make(%v) = %v, want %v", g, c, wanted)
		}
	}
}

// TestSubgroups tests P8.1: all groups of degree 5, from different generators; different groups have different chains.
func TestSubgroups(t *testing.T) {
	t.Parallel()
	r := rand.New(rand.NewSource(5))
	groups := subgroups(5)
	if len(groups) != 156 {
		t.Fatalf("%d groups", len(groups))
	}
	for _, c := range groups {
		var strong []api.Perm
		for _, reps := range c.Reps {
			strong = append(strong, reps...)
		}
		for range 3 {
			r.Shuffle(len(strong), func(i, k int) { strong[i], strong[k] = strong[k], strong[i] })
			if d := must[api.Chain](t)(Make(5, strong)); !same(c, d) {
				t.Fatalf("Make(5, %v) = %v, want %v", strong, d, c)
			}
		}
	}
}

// checkRight reports a chain that is not that of a group whose number of elements is known: its representatives have to be elements that are the least ones.
func checkRight(t *testing.T, k known, c api.Chain) {
	t.Helper()
	if c.Degree != k.g.Degree || len(c.Orbits) != c.Degree || len(c.Reps) != c.Degree {
		t.Fatalf("%s: degree %d, %d orbits, %d lists", k.name, c.Degree, len(c.Orbits), len(c.Reps))
	}
	for i, orbit := range c.Orbits {
		if orbit[0] != i || !slices.IsSorted(orbit) || len(orbit) != len(c.Reps[i]) || !isOne(c.Reps[i][0]) {
			t.Fatalf("%s: the orbit of %d is %v", k.name, i, orbit)
		}
		for j, p := range orbit {
			r := c.Reps[i][j]
			if perm.Check(r) != api.OK || len(r) != c.Degree || !isOne(r[:i]) || i > 0 && r[i-1] != i-1 || r[i] != p {
				t.Fatalf("%s: the representative of %d for %d is %v", k.name, p, i, r)
			}
			// In the greatest groups, some of the representatives have to do.
			if (i+j)%7 > 0 && len(c.Orbits[1]) > 40 {
				continue
			}
			if least := textbookLeast(c, i+1, r); !slices.Equal(r, least) {
				t.Fatalf("%s: the representative of %d for %d is %v, but %v is less", k.name, p, i, r, least)
			}
		}
	}
	order := api.Num("1")
	for i := range c.Orbits {
		order, _ = perm.Times(order, len(c.Orbits[i]))
	}
	if order != k.order {
		t.Fatalf("%s: %s elements, want %s", k.name, order, k.order)
	}
	for _, s := range k.g.Gens {
		if x, level := textbookSift(c, s); level != c.Degree {
			t.Fatalf("%s: the generator %v is left with %v", k.name, s, x)
		}
	}
}

// textbookLeast returns the least product of an element that fixes the points before a level and x, by trying all representatives at each level.
func textbookLeast(c api.Chain, level int, x api.Perm) api.Perm {
	for i := level; i < c.Degree; i++ {
		least := x
		for _, r := range c.Reps[i] {
			if y := mul(r, x); slices.Compare(y, least) < 0 {
				least = y
			}
		}
		x = least
	}
	return x
}

// TestGreat tests P8.1: groups of great degrees and orders. The generators sift, so the chain has the group in it; and its number of elements is right.
func TestGreat(t *testing.T) {
	t.Parallel()
	for _, k := range great() {
		c := must[api.Chain](t)(Of(k.g))
		checkRight(t, k, c)
		if d := must[api.Chain](t)(Make(k.g.Degree, k.g.Gens)); !same(c, d) {
			t.Fatalf("%s: Make and Of differ", k.name)
		}
		if e := Check(c); e != api.OK {
			t.Fatalf("%s: Check has the error %d", k.name, int(e))
		}
		if order := must[api.Num](t)(Order(c)); order != k.order {
			t.Fatalf("%s: Order = %s", k.name, order)
		}
		strong := must[[]api.Perm](t)(Strong(c))
		for range 2 {
			if d := must[api.Chain](t)(Make(k.g.Degree, strong)); !same(c, d) {
				t.Fatalf("%s: its representatives generate another group", k.name)
			}
			slices.Reverse(strong)
		}
	}
}

// TestDegrees tests P8.1: which degrees there are, and that no other error comes before this one.
func TestDegrees(t *testing.T) {
	for n := 1; n <= 64; n++ {
		for _, l := range [][]api.Perm{nil, {one(n)}, {cycle(n, 0, n)}} {
			if _, e := Make(n, l); e != api.OK {
				t.Errorf("Make(%d, %v): error %d", n, l, int(e))
			}
		}
	}
	for _, n := range badDegrees() {
		for _, l := range [][]api.Perm{nil, {one(1)}, {nil}, {{0, 0}}, {one(min(max(n, 0), 100))}, make([]api.Perm, 17), make([]api.Perm, 4097)} {
			if c, e := Make(n, l); !zero(c) || e != api.ErrRange {
				t.Errorf("Make(%d, %d permutations): error %d", n, len(l), int(e))
			}
		}
	}
}

// badDegrees are no degrees.
func badDegrees() []int {
	return []int{math.MinInt, math.MinInt + 1, -1 << 32, -65, -64, -2, -1, 0, 65, 66, 100, 128, 1 << 32, 1<<32 + 1, math.MaxInt - 1, math.MaxInt}
}

// TestMost tests P8.1: how many permutations Make accepts, and that this comes before their own errors.
func TestMost(t *testing.T) {
	swaps := func(n, count int) []api.Perm {
		l := slices.Repeat([]api.Perm{one(n)}, count)
		l[count-1] = cycle(n, n-2, 2)
		return l
	}
	for _, n := range []int{2, 5, 64} {
		for _, count := range []int{16, 17, 100, 4095, 4096} {
			if c, e := Make(n, swaps(n, count)); e != api.OK || !slices.Equal(c.Orbits[n-2], []int{n - 2, n - 1}) {
				t.Errorf("Make(%d, %d permutations): error %d", n, count, int(e))
			}
		}
		for _, count := range []int{4097, 4098, 10000} {
			for _, a := range []api.Perm{one(n), nil, {0, 0}, one(n + 1)} {
				if c, e := Make(n, slices.Repeat([]api.Perm{a}, count)); !zero(c) || e != api.ErrLong {
					t.Errorf("Make(%d, %d permutations %v): error %d", n, count, a, int(e))
				}
			}
		}
	}
	// So many elements of a small group, and of a great one.
	r := rand.New(rand.NewSource(4096))
	for _, n := range []int{5, 64} {
		var l []api.Perm
		for range 4096 {
			l = append(l, r.Perm(n))
		}
		if c := must[api.Chain](t)(Make(n, l)); !same(c, chainOf(all(n))) {
			t.Errorf("Make(%d, 4096 permutations) = %v", n, c)
		}
	}
}

// faultyPerm is a list that is no permutation of a degree, with its error.
type faultyPerm struct {
	a api.Perm
	e api.Errno
}

// badPerms returns lists that are no permutations of the degree n.
func badPerms(n int) []faultyPerm {
	l := []faultyPerm{
		{nil, api.ErrRange}, {api.Perm{}, api.ErrRange}, {one(65), api.ErrRange}, {make(api.Perm, 65), api.ErrRange}, {make(api.Perm, 1000), api.ErrRange},
		{api.Perm{1}, api.ErrForm}, {api.Perm{-1}, api.ErrForm}, {api.Perm{0, 0}, api.ErrForm}, {api.Perm{math.MaxInt, math.MinInt}, api.ErrForm}, {make(api.Perm, 64), api.ErrForm},
		{append(one(n)[1:], n), api.ErrForm}, {append(one(n)[1:], -1), api.ErrForm}, {append(one(n)[1:], 256+n-1), api.ErrForm}, {append(one(n)[1:], math.MinInt), api.ErrForm},
	}
	for _, k := range []int{1, 2, n - 1, n + 1, 63, 64} {
		if k != n && k > 0 && k <= 64 {
			l = append(l, faultyPerm{cycle(k, 0, k), api.ErrType}, faultyPerm{one(k), api.ErrType})
		}
	}
	return l
}

// TestFaultyPerms tests P8.1: permutations with faults, at all places, alone and two of them: the first one counts.
func TestFaultyPerms(t *testing.T) {
	for _, n := range []int{1, 2, 4, 63, 64} {
		for _, count := range []int{1, 2, 3, 17} {
			for _, x := range badPerms(n) {
				for i := range count {
					l := slices.Repeat([]api.Perm{cycle(n, 0, n)}, count)
					l[i] = x.a
					if c, e := Make(n, l); !zero(c) || e != x.e {
						t.Fatalf("Make(%d, ..) with %v: error %d, want %d", n, x.a, int(e), int(x.e))
					}
					for _, y := range badPerms(n) {
						if i+1 == count {
							break
						}
						l[count-1] = y.a
						if c, e := Make(n, l); !zero(c) || e != x.e {
							t.Fatalf("Make(%d, ..) with %v and %v: error %d, want %d", n, x.a, y.a, int(e), int(x.e))
						}
					}
				}
			}
		}
	}
}

// faultyGroups returns groups with faults.
func faultyGroups() []api.Group {
	var l []api.Group
	for _, n := range badDegrees() {
		for _, gens := range [][]api.Perm{nil, {one(1)}, {nil}, make([]api.Perm, 17)} {
			l = append(l, api.Group{Degree: n, Gens: gens})
		}
	}
	for _, n := range []int{1, 2, 5, 63, 64} {
		l = append(l, api.Group{Degree: n, Gens: slices.Repeat([]api.Perm{one(n)}, 17)}, api.Group{Degree: n, Gens: make([]api.Perm, 18)})
		for _, x := range badPerms(n) {
			for _, y := range badPerms(n) {
				l = append(l, api.Group{Degree: n, Gens: []api.Perm{x.a, y.a}}, api.Group{Degree: n, Gens: []api.Perm{one(n), x.a, one(n)}})
			}
		}
	}
	return l
}

// TestFaultyGroups tests P8.1 and P8.2: Of and Random return the error of orbit.Check, before any other.
func TestFaultyGroups(t *testing.T) {
	for _, g := range faultyGroups() {
		wanted := orbit.Check(g)
		if wanted == api.OK {
			t.Fatalf("Check(%v) finds no fault", g)
		}
		if c, e := Of(g); !zero(c) || e != wanted {
			t.Fatalf("Of(%v): error %d, want %d", g, int(e), int(wanted))
		}
		for _, numbers := range [][]int{nil, {0, 1}, make([]int, 1001)} {
			if c, e := Random(g, numbers); !zero(c) || e != wanted {
				t.Fatalf("Random(%v, %d numbers): error %d, want %d", g, len(numbers), int(e), int(wanted))
			}
		}
	}
	if c, e := Of(api.Group{Degree: 3, Gens: slices.Repeat(parse(3, "(0 1 2)"), 16)}); e != api.OK || count(c) != 3 {
		t.Errorf("Of 16 generators = %v, error %d", c, int(e))
	}
}
