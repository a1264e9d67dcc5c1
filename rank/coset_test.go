package rank

import (
	"math/rand"
	"slices"
	"testing"

	"cayley/api"
	"cayley/perm"
)

// TestCosetExamples tests P9.3 and P9.4 with the chapter's examples.
func TestCosetExamples(t *testing.T) {
	s, h, z := made(4, all(4, 0, 4)...), made(4, parse(4, "(0 1)(2 3)", "(0 2)(1 3)")...), made(4, parse(4, "(2 3)")...)
	if x := must[api.Perm](t)(Least(h, parse(4, "(0 1)")[0])); !slices.Equal(x, parse(4, "(2 3)")[0]) {
		t.Errorf("Least(h, (0 1)) = %v", x)
	}
	if x := must[api.Perm](t)(Least(s, parse(4, "(0 3)")[0])); !slices.Equal(x, identity(4)) {
		t.Errorf("Least(s, (0 3)) = %v", x)
	}
	if n := must[api.Num](t)(Index(h, s)); n != "6" {
		t.Errorf("Index(h, s) = %s", n)
	}
	if l := must[[]api.Perm](t)(Cosets(h, s)); !samePerms(l, parse(4, "()", "(2 3)", "(1 2)", "(1 2 3)", "(1 3 2)", "(1 3)")) {
		t.Errorf("Cosets(h, s) = %v", l)
	}
	if n, e := Index(z, h); n != "" || e != api.ErrNone {
		t.Errorf("Index(z, h) = %s, error %d", n, int(e))
	}
	if l := must[[]api.Perm](t)(Cosets(z, s)); len(l) != 12 {
		t.Errorf("Cosets(z, s) = %v", l)
	}
}

// TestLeastSubgroups tests P9.3: all groups of a degree up to 5, and all permutations, against all products.
func TestLeastSubgroups(t *testing.T) {
	t.Parallel()
	for n := 1; n <= 5; n++ {
		every := listed(n, all(n, 0, n))
		for _, g := range subgroups(n) {
			for _, x := range every {
				wanted := leastOf(g.elements, x)
				if y := must[api.Perm](t)(Least(g.c, x)); !slices.Equal(y, wanted) {
					t.Fatalf("Least(%v, %v) = %v, want %v", g.c, x, y, wanted)
				}
			}
		}
	}
}

// TestLeastSmall tests P9.3: permutations in groups whose elements can be listed, and outside of them.
func TestLeastSmall(t *testing.T) {
	t.Parallel()
	r := rand.New(rand.NewSource(93))
	for _, g := range small() {
		for k := range 10 {
			x := api.Perm(r.Perm(g.c.Degree))
			if k%3 == 0 {
				x = g.elements[r.Intn(len(g.elements))]
			}
			wanted := leastOf(g.elements, x)
			if y := must[api.Perm](t)(Least(g.c, x)); !slices.Equal(y, wanted) {
				t.Fatalf("Least(%v, %v) = %v, want %v", g.c, x, y, wanted)
			}
		}
	}
}

// through returns the permutation of degree n that maps each of some points to the next one, and the last to the first.
func through(n int, points ...int) api.Perm {
	x := identity(n)
	for i, p := range points {
		x[p] = points[(i+1)%len(points)]
	}
	return x
}

// sortedAt returns x with the images of some points in ascending order.
func sortedAt(x api.Perm, points []int) api.Perm {
	var images []int
	for _, p := range points {
		images = append(images, x[p])
	}
	slices.Sort(images)
	y := slices.Clone(x)
	for i, p := range points {
		y[p] = images[i]
	}
	return y
}

// from returns length points from first on, with steps in between.
func from(first, length, step int) []int {
	var l []int
	for i := range length {
		l = append(l, first+step*i)
	}
	return l
}

// TestLeastGreat tests P9.3 in great groups: all permutations of a part of the points put the images in order; the even ones do so but for the last two of them; rings turn the least image to the front.
func TestLeastGreat(t *testing.T) {
	t.Parallel()
	r := rand.New(rand.NewSource(94))
	for _, parts := range [][][]int{{from(0, 64, 1)}, {from(0, 32, 2)}, {from(0, 32, 1), from(32, 32, 1)}, {from(0, 20, 3), from(1, 21, 3), from(2, 10, 3)}, {from(1, 62, 1)}, {from(3, 3, 20), from(4, 12, 5)}} {
		var full, half, turned []api.Perm
		for _, l := range parts {
			full = append(full, through(64, l...), through(64, l[:2]...))
			half = append(half, through(64, l[1-len(l)%2:]...), through(64, l[:3]...))
			turned = append(turned, through(64, l...))
		}
		f, h, u := made(64, full...), made(64, half...), made(64, turned...)
		for range 20 {
			x := api.Perm(r.Perm(64))
			sorted, nearly, front := x, x, x
			for _, l := range parts {
				sign := must[int](t)(perm.Sign(nearly))
				sorted, nearly = sortedAt(sorted, l), sortedAt(nearly, l)
				if last := l[len(l)-2:]; must[int](t)(perm.Sign(nearly)) != sign {
					nearly[last[0]], nearly[last[1]] = nearly[last[1]], nearly[last[0]]
				}
				ring := through(64, l...)
				for front[l[0]] > sorted[l[0]] {
					front = times(ring, front)
				}
			}
			for name, y := range map[string][2]api.Perm{"sorted": {sorted, must[api.Perm](t)(Least(f, x))}, "even": {nearly, must[api.Perm](t)(Least(h, x))}, "rings": {front, must[api.Perm](t)(Least(u, x))}} {
				if !slices.Equal(y[0], y[1]) {
					t.Fatalf("%s, parts %v: Least of %v = %v, want %v", name, parts, x, y[1], y[0])
				}
			}
		}
	}
}

// TestLeastTrivial tests P9.3: with the identity alone, each permutation is a coset.
func TestLeastTrivial(t *testing.T) {
	for n := 1; n <= 64; n++ {
		for _, x := range []api.Perm{identity(n), cycle(n, 0, n), cycle(n, n-1, 1)} {
			if y := must[api.Perm](t)(Least(made(n), x)); !slices.Equal(x, y) {
				t.Errorf("Least of %v = %v", x, y)
			}
		}
	}
}

// TestCosetPairs tests P9.4 with all pairs of groups of a degree up to 5, against the lists of their elements.
func TestCosetPairs(t *testing.T) {
	t.Parallel()
	for n := 1; n <= 5; n++ {
		groups := subgroups(n)
		for _, g := range groups {
			for _, h := range groups {
				checkCosets(t, g, h)
			}
		}
	}
}

// checkCosets tests all that P9.4 says of two groups whose elements are known.
func checkCosets(t *testing.T, g, h group) {
	t.Helper()
	index, e := Index(g.c, h.c)
	l, ee := Cosets(g.c, h.c)
	if !contains(h.elements, g.elements) {
		if index != "" || e != api.ErrNone || len(l) != 0 || ee != api.ErrNone {
			t.Fatalf("%v and %v: index %s, error %d; cosets %v, error %d", g.c, h.c, index, int(e), l, int(ee))
		}
		return
	}
	if index != decimal(len(h.elements)/len(g.elements)) || e != api.OK {
		t.Fatalf("Index(%v, %v) = %s, error %d", g.c, h.c, index, int(e))
	}
	if wanted := cosetsOf(g.elements, h.elements); !samePerms(l, wanted) || ee != api.OK {
		t.Fatalf("Cosets(%v, %v) = %v, error %d, want %v", g.c, h.c, l, int(ee), wanted)
	}
}

// decimal returns n as an order.
func decimal(n int) api.Num {
	text := ""
	for ; n > 0; n /= 10 {
		text = string(rune('0'+n%10)) + text
	}
	return api.Num(text)
}

// TestCosetSmall tests P9.4 with groups whose elements can be listed: those of their elements.
func TestCosetSmall(t *testing.T) {
	t.Parallel()
	r := rand.New(rand.NewSource(95))
	for _, h := range small() {
		n := h.c.Degree
		pick := func() api.Perm { return h.elements[r.Intn(len(h.elements))] }
		other := api.Perm(r.Perm(n))
		for _, gens := range [][]api.Perm{nil, {identity(n)}, {pick()}, {pick(), pick()}, {times(other, other, other, other, other, other)}, {pick(), shuffled(r, n, n-min(n, 3), min(n, 3))}} {
			g := group{made(n, gens...), nil}
			if must[int](t)(Size(g.c)) > 5040 {
				continue
			}
			g.elements = listed(n, gens)
			checkCosets(t, g, h)
		}
	}
}

// TestIndexGreat tests P9.4: indices that are known, of great groups.
func TestIndexGreat(t *testing.T) {
	t.Parallel()
	const (
		factorial63 api.Num = "1982608315404440064116146708361898137544773690227268628106279599612729753600000000000000"
		factorial64 api.Num = "126886932185884164103433389335161480802865516174545192198801894375214704230400000000000000"
	)
	whole := made(64, all(64, 0, 64)...)
	for _, x := range []struct {
		name string
		c, d api.Chain
		want api.Num
		e    api.Errno
	}{
		{"nothing", made(64), whole, factorial64, api.OK}, {"whole", whole, whole, "1", api.OK}, {"even ones", made(64, even(64, 0, 64)...), whole, "2", api.OK}, {"ring", made(64, cycle(64, 0, 64)), whole, factorial63, api.OK},
		{"all of 63", made(64, all(64, 0, 63)...), whole, "64", api.OK}, {"all of 63 at the end", made(64, all(64, 1, 63)...), whole, "64", api.OK}, {"halves", made(64, append(all(64, 0, 32), all(64, 32, 32)...)...), whole, "1832624140942590534", api.OK},
		{"halves of 20", made(64, append(all(64, 0, 10), all(64, 10, 10)...)...), made(64, all(64, 0, 20)...), "184756", api.OK}, {"whole in even ones", whole, made(64, even(64, 0, 64)...), "", api.ErrNone}, {"a swap in even ones", made(64, cycle(64, 62, 2)), made(64, even(64, 0, 64)...), "", api.ErrNone},
		{"a part that overlaps", made(64, all(64, 10, 3)...), made(64, all(64, 12, 50)...), "", api.ErrNone}, {"of degree 1", made(1), made(1), "1", api.OK},
	} {
		if n, e := Index(x.c, x.d); n != x.want || e != x.e {
			t.Errorf("%s: Index = %s, error %d", x.name, n, int(e))
		}
	}
}

// TestCosetsGreat tests P9.4: cosets of great groups, whose least elements have the images of some points in order.
func TestCosetsGreat(t *testing.T) {
	t.Parallel()
	for _, part := range [][]int{from(2, 62, 1), from(0, 62, 1), append([]int{0}, from(3, 61, 1)...)} {
		var rest []int
		for p := range 64 {
			if !slices.Contains(part, p) {
				rest = append(rest, p)
			}
		}
		var wanted []api.Perm
		for a := range 64 {
			for b := range 64 {
				if a == b {
					continue
				}
				// Any permutation that maps the two points that are left to a and b will do.
				x := identity(64)
				x[a], x[rest[0]] = x[rest[0]], x[a]
				if at := slices.Index(x, b); at != rest[1] {
					x[at], x[rest[1]] = x[rest[1]], x[at]
				}
				wanted = append(wanted, sortedAt(x, part))
			}
		}
		slices.SortFunc(wanted, before)
		c := made(64, through(64, part...), through(64, part[:2]...))
		if l := must[[]api.Perm](t)(Cosets(c, made(64, all(64, 0, 64)...))); !samePerms(l, wanted) {
			t.Errorf("Cosets of all permutations of %v: %d", part, len(l))
		}
	}
}

// TestCosetsBound tests P9.4: Cosets returns at most 5,040 elements, and ErrNone comes before ErrOver. No index up to the degree 64 is from 5,041 to 5,045.
func TestCosetsBound(t *testing.T) {
	t.Parallel()
	wide, ends := all(64, 0, 57), all(64, 57, 7)
	odd := rings(64, 0, 29, 29, 2, 3)
	for _, x := range []struct {
		name string
		c, d api.Chain
		n    int
		e    api.Errno
	}{
		{"nothing in all of 7", made(7), made(7, all(7, 0, 7)...), 5040, api.OK}, {"5,040", made(64, wide...), made(64, append(wide, ends...)...), 5040, api.OK}, {"5,040, turned", made(64, all(64, 7, 57)...), made(64, append(all(64, 7, 57), all(64, 0, 7)...)...), 5040, api.OK},
		{"5,046", made(64), made(64, odd...), 0, api.ErrOver}, {"2,523", made(64, odd[2]), made(64, odd...), 2523, api.OK}, {"the same", made(64, odd...), made(64, odd...), 1, api.OK}, {"2 of great groups", made(64, even(64, 0, 64)...), made(64, all(64, 0, 64)...), 2, api.OK},
		{"10,080", made(64, even(64, 0, 57)...), made(64, append(wide, ends...)...), 0, api.ErrOver}, {"nothing in all of 20", made(20), made(20, all(20, 0, 20)...), 0, api.ErrOver}, {"nothing in all of 21", made(21), made(21, all(21, 0, 21)...), 0, api.ErrOver}, {"nothing in all of 64", made(64), made(64, all(64, 0, 64)...), 0, api.ErrOver},
		{"no part", made(64, cycle(64, 62, 2)), made(64, even(64, 0, 64)...), 0, api.ErrNone}, {"no part, 40,320 elements", made(9, cycle(9, 7, 2)), made(9, all(9, 0, 8)...), 0, api.ErrNone}, {"greater", made(7, all(7, 0, 7)...), made(7), 0, api.ErrNone},
	} {
		l, e := Cosets(x.c, x.d)
		if len(l) != x.n || e != x.e {
			t.Errorf("%s: %d cosets, error %d", x.name, len(l), int(e))
		}
	}
}
