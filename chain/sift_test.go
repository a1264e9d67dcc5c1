package chain

import (
	"math"
	"math/rand"
	"slices"
	"testing"

	"cayley/api"
	"cayley/perm"
)

// checkSift reports another result of Sift and In than that of the textbook.
func checkSift(t *testing.T, c api.Chain, x api.Perm) (is bool) {
	t.Helper()
	residue, end := textbookSift(c, x)
	y, level, e := Sift(c, x)
	if e != api.OK || level != end || !slices.Equal(y, residue) {
		t.Fatalf("Sift(%v, %v) = %v, %d, error %d, want %v, %d", c, x, y, level, int(e), residue, end)
	}
	if level == c.Degree && !isOne(y) {
		t.Fatalf("Sift(%v, %v) ends with %v", c, x, y)
	}
	is, e = In(c, x)
	if e != api.OK || is != (level == c.Degree) {
		t.Fatalf("In(%v, %v) = %v, error %d", c, x, is, int(e))
	}
	return is
}

// TestSiftExamples tests P8.4 with the chapter's examples.
func TestSiftExamples(t *testing.T) {
	h, g := chainOf(four()), chainOf(of(4, "(0 1 2)", "(2 3)"))
	x, level, e := Sift(h, parse(4, "(0 1)")[0])
	if e != api.OK || level != 2 || !slices.Equal(x, parse(4, "(2 3)")[0]) {
		t.Errorf("Sift(h, (0 1)) = %v, %d, error %d", x, level, int(e))
	}
	if is, e := In(h, parse(4, "(0 3)(1 2)")[0]); !is || e != api.OK {
		t.Errorf("In(h, (0 3)(1 2)) = %v, error %d", is, int(e))
	}
	for _, y := range []struct {
		c api.Chain
		n api.Num
	}{{g, "24"}, {h, "4"}, {chainOf(api.Group{Degree: 4}), "1"}, {chainOf(api.Group{Degree: 1}), "1"}, {chainOf(api.Group{Degree: 64}), "1"}} {
		if n := must[api.Num](t)(Order(y.c)); n != y.n {
			t.Errorf("Order(%v) = %s, want %s", y.c, n, y.n)
		}
	}
	if is, e := Below(h, g); !is || e != api.OK {
		t.Errorf("Below(h, g) = %v, error %d", is, int(e))
	}
	if is, e := Below(g, h); is || e != api.OK {
		t.Errorf("Below(g, h) = %v, error %d", is, int(e))
	}
	s := must[api.Chain](t)(Stab(g, 2))
	if !same(s, chainOf(of(4, "(2 3)"))) {
		t.Errorf("Stab(g, 2) = %v", s)
	}
}

// TestMembers tests P8.4 and P8.6: all permutations of degree 4, and those of other degrees, against the lists of the elements of many groups; and the number of elements.
func TestMembers(t *testing.T) {
	t.Parallel()
	r := rand.New(rand.NewSource(6))
	for _, g := range small() {
		elements := listed(g.Degree, g.Gens)
		is := map[[16]int]bool{}
		for _, a := range elements {
			is[short(a)] = true
		}
		c := chainOf(g)
		if n := must[api.Num](t)(Order(c)); n != product(1, 1, len(elements)) {
			t.Fatalf("Order(%v) = %s, want %d", g, n, len(elements))
		}
		var others []api.Perm
		for range 40 {
			a := elements[r.Intn(len(elements))]
			others = append(others, a, mul(a, swap(r, g.Degree)), r.Perm(g.Degree))
		}
		if g.Degree <= 4 {
			others = listed(g.Degree, all(g.Degree).Gens)
		}
		for _, a := range others {
			if checkSift(t, c, a) != is[short(a)] {
				t.Fatalf("In(%v, %v) is wrong", g, a)
			}
		}
	}
}

// TestGreatMembers tests P8.4 and P8.6: products of generators of great groups sift; permutations of which it is known are no elements.
func TestGreatMembers(t *testing.T) {
	t.Parallel()
	r := rand.New(rand.NewSource(66))
	for _, k := range great() {
		c := chainOf(k.g)
		n := c.Degree
		x := one(n)
		for range 6 {
			for range 20 * min(1, len(k.g.Gens)) {
				x = mul(x, k.g.Gens[r.Intn(len(k.g.Gens))])
			}
			if !checkSift(t, c, x) {
				t.Fatalf("%s: %v is an element", k.name, x)
			}
			y := api.Perm(r.Perm(n))
			is := checkSift(t, c, y)
			swapped := mul(y, cycle(n, 0, 2))
			// With as many elements as there are permutations, all are elements; of the even ones, either y or y times a swap is one.
			if whole := k.order == product(n, 1, 1); whole != (is && checkSift(t, c, swapped)) {
				t.Fatalf("%s: In(%v) = %v", k.name, y, is)
			}
		}
	}
	even := great()[7]
	c := chainOf(even.g)
	for range 20 {
		x := api.Perm(r.Perm(64))
		sign := must[int](t)(perm.Sign(x))
		if checkSift(t, c, x) != (sign == 1) {
			t.Fatalf("%s: the sign of %v is %d", even.name, x, sign)
		}
	}
}

// TestSiftErrors tests P8.4: lists that are no permutations, or of another degree.
func TestSiftErrors(t *testing.T) {
	for _, n := range []int{1, 2, 4, 63, 64} {
		for _, g := range []api.Group{{Degree: n}, {Degree: n, Gens: []api.Perm{cycle(n, 0, n)}}, all(min(n, 9))} {
			c := chainOf(g)
			for _, x := range badPerms(c.Degree) {
				if y, level, e := Sift(c, x.a); len(y)+level != 0 || e != x.e {
					t.Fatalf("Sift of degree %d, %v: error %d, want %d", n, x.a, int(e), int(x.e))
				}
				if is, e := In(c, x.a); is || e != x.e {
					t.Fatalf("In of degree %d, %v: error %d, want %d", n, x.a, int(e), int(x.e))
				}
			}
		}
	}
}

// TestBelow tests P8.4: all pairs of groups of degree 4, against the lists of their elements; and groups of great degrees.
func TestBelow(t *testing.T) {
	t.Parallel()
	groups := subgroups(4)
	for _, c := range groups {
		elements := listed(4, slices.Concat(c.Reps...))
		for _, d := range groups {
			is := map[[16]int]bool{}
			for _, a := range listed(4, slices.Concat(d.Reps...)) {
				is[short(a)] = true
			}
			wanted := !slices.ContainsFunc(elements, func(a api.Perm) bool { return !is[short(a)] })
			if got, e := Below(c, d); got != wanted || e != api.OK {
				t.Fatalf("Below(%v, %v) = %v, error %d", c, d, got, int(e))
			}
		}
	}
	whole, trivial := chainOf(all(64)), chainOf(api.Group{Degree: 64})
	for _, k := range great() {
		if k.g.Degree != 64 {
			continue
		}
		c := chainOf(k.g)
		for _, x := range []struct {
			c, d api.Chain
			is   bool
		}{{c, c, true}, {c, whole, true}, {trivial, c, true}, {whole, c, same(whole, c)}, {c, trivial, same(c, trivial)}} {
			if is, e := Below(x.c, x.d); is != x.is || e != api.OK {
				t.Fatalf("%s: Below = %v, error %d", k.name, is, int(e))
			}
		}
	}
}

// TestBelowErrors tests P8.4: chains of different degrees.
func TestBelowErrors(t *testing.T) {
	for _, n := range []int{1, 2, 3, 8, 63, 64} {
		for _, m := range []int{1, 2, 3, 8, 63, 64} {
			for _, g := range []api.Group{{Degree: n}, {Degree: n, Gens: []api.Perm{cycle(n, 0, n)}}} {
				for _, h := range []api.Group{{Degree: m}, {Degree: m, Gens: []api.Perm{cycle(m, 0, m)}}} {
					wanted := api.ErrType
					if n == m {
						wanted = api.OK
					}
					if is, e := Below(chainOf(g), chainOf(h)); e != wanted || e != api.OK && is {
						t.Errorf("Below of the degrees %d and %d = %v, error %d", n, m, is, int(e))
					}
				}
			}
		}
	}
}

// TestStab tests P8.5: the stabilisers of many groups, against their elements, and the representatives of them.
func TestStab(t *testing.T) {
	t.Parallel()
	for _, g := range small() {
		n := g.Degree
		c := chainOf(g)
		elements := listed(n, g.Gens)
		for k := 0; k <= n; k++ {
			var fixing []api.Perm
			for _, a := range elements {
				if slices.Equal(a[:k], one(n)[:k]) {
					fixing = append(fixing, a)
				}
			}
			s := must[api.Chain](t)(Stab(c, k))
			if !same(s, textbook(n, fixing)) || Check(s) != api.OK {
				t.Fatalf("Stab(%v, %d) = %v", g, k, s)
			}
			checkStrong(t, s)
		}
	}
	for _, k := range great() {
		c := chainOf(k.g)
		for _, i := range []int{0, 1, 2, 7, c.Degree - 2, c.Degree - 1, c.Degree} {
			s := must[api.Chain](t)(Stab(c, i))
			if !same(s, must[api.Chain](t)(Make(c.Degree, slices.Concat(c.Reps[i:]...)))) && i < c.Degree {
				t.Fatalf("%s: Stab(%d) = %v", k.name, i, s)
			}
			if i >= c.Degree-1 && !same(s, chainOf(api.Group{Degree: c.Degree})) {
				t.Fatalf("%s: Stab(%d) = %v", k.name, i, s)
			}
		}
		checkStrong(t, c)
	}
}

// checkStrong reports another list of representatives than those of all points, in order, without identities.
func checkStrong(t *testing.T, c api.Chain) {
	t.Helper()
	wanted := slices.DeleteFunc(slices.Concat(c.Reps...), func(a api.Perm) bool { return isOne(a) })
	l := must[[]api.Perm](t)(Strong(c))
	if !samePerms(l, wanted) {
		t.Fatalf("Strong(%v) = %v", c, l)
	}
	if d := must[api.Chain](t)(Make(c.Degree, l)); !same(c, d) {
		t.Fatalf("Strong(%v) generates %v", c, d)
	}
}

// TestStrong tests P8.5: representatives that are known.
func TestStrong(t *testing.T) {
	for _, x := range []struct {
		g api.Group
		l []api.Perm
	}{
		{api.Group{Degree: 1}, nil}, {api.Group{Degree: 64}, nil}, {of(2, "(0 1)"), parse(2, "(0 1)")}, {four(), parse(4, "(0 1)(2 3)", "(0 2)(1 3)", "(0 3)(1 2)")},
		{of(4, "(0 1 2)", "(2 3)"), parse(4, "(0 1)", "(0 2 1)", "(0 3 2 1)", "(1 2)", "(1 3 2)", "(2 3)")}, {of(5, "(3 4)", "(0 1 2)"), parse(5, "(0 1 2)", "(0 2 1)", "(3 4)")},
	} {
		if l := must[[]api.Perm](t)(Strong(chainOf(x.g))); !samePerms(l, x.l) {
			t.Errorf("Strong(%v) = %v", x.g, l)
		}
	}
	if l := must[[]api.Perm](t)(Strong(chainOf(all(64)))); len(l) != 2016 {
		t.Errorf("%d representatives of all permutations of degree 64", len(l))
	}
}

// TestStabErrors tests P8.5: which stabilisers there are.
func TestStabErrors(t *testing.T) {
	for _, n := range []int{1, 2, 4, 63, 64} {
		for _, g := range []api.Group{{Degree: n}, {Degree: n, Gens: []api.Perm{cycle(n, 0, n)}}} {
			c := chainOf(g)
			for _, k := range []int{0, 1, n - 1, n} {
				if _, e := Stab(c, k); e != api.OK {
					t.Errorf("Stab of degree %d, %d: error %d", n, k, int(e))
				}
			}
			for _, k := range []int{math.MinInt, -1 << 32, -n, -1, n + 1, n + 64, 256, 1 << 32, 1<<32 + 1, math.MaxInt} {
				if s, e := Stab(c, k); !zero(s) || e != api.ErrRange {
					t.Errorf("Stab of degree %d, %d: error %d", n, k, int(e))
				}
			}
		}
	}
}
