package factor

import (
	"math/rand"
	"slices"
	"testing"

	"cayley/api"
	"cayley/chain"
)

// expectProgram tests that Program returns a valid program with a value.
func expectProgram(t *testing.T, g api.Group, x api.Perm) {
	t.Helper()
	l, e := Program(g, x)
	if e != api.OK {
		t.Fatalf("Program(%v, %v): error %d", g, x, int(e))
	}
	// By its comment, the type levels needs 755 steps at most.
	if len(l) > 755 || len(l) > api.MaxSteps {
		t.Fatalf("Program(%v, %v) has %d steps", g, x, len(l))
	}
	for i, s := range l {
		n := len(g.Gens) + i
		if s.Op != api.StepMul && s.Op != api.StepInv || s.A < 0 || s.A >= n || s.Op == api.StepMul && (s.B < 0 || s.B >= n) {
			t.Fatalf("Program(%v, %v): step %d is %v", g, x, i, s)
		}
	}
	if y := ran(g, l); !slices.Equal(x, y) {
		t.Fatalf("Program(%v, %v) has the value %v", g, x, y)
	}
	if y, e := Run(g, l); e != api.OK || !slices.Equal(x, y) {
		t.Fatalf("Run of Program(%v, %v) = %v, error %d", g, x, y, int(e))
	}
}

// expectNoProgram tests an error of Program.
func expectNoProgram(t *testing.T, g api.Group, x api.Perm, wanted api.Errno) {
	t.Helper()
	l, e := Program(g, x)
	expectNothing(t, "Program", e, wanted, len(l) == 0)
}

// TestProgramExamples tests P10.3 by the chapter's example, and by the elements of its groups.
func TestProgramExamples(t *testing.T) {
	expectNoProgram(t, five(), parse(5, "(0 1)")[0], api.ErrNone)
	for _, x := range listed(three()) {
		expectProgram(t, three(), x)
	}
	for _, x := range listed(five()) {
		expectProgram(t, five(), x)
	}
}

// TestPrograms tests P10.3 with all permutations of up to 5 points, in all groups that two of them generate: ErrNone if they are no elements.
func TestPrograms(t *testing.T) {
	t.Parallel()
	for n := 1; n <= 5; n++ {
		every := listed(all(n, 0, n))
		r := rand.New(rand.NewSource(int64(105 + n)))
		for i, a := range every {
			for _, b := range every[:i+1] {
				if n == 5 && r.Intn(20) > 0 {
					continue
				}
				g := group(n, a, b)
				elements := listed(g)
				for _, x := range every {
					if _, is := slices.BinarySearchFunc(elements, x, before); is {
						expectProgram(t, g, x)
					} else {
						expectNoProgram(t, g, x, api.ErrNone)
					}
				}
			}
		}
	}
}

// great returns groups up to the greatest degree for which there are programs, and such with many generators.
func great(r *rand.Rand) []api.Group {
	l := []api.Group{
		all(16, 0, 16), all(16, 1, 15), all(16, 0, 15), neighbours(16, 0, 16), rings(16, 0, 2, 2, 2, 2, 2, 2, 2, 2), rings(16, 0, 16), rings(16, 0, 5, 11), group(16), group(15), group(16, slices.Repeat([]api.Perm{unit(16)}, 16)...),
		// Each of 16 generators of these makes the group greater, but for the last one.
		group(16, append(neighbours(16, 0, 16).Gens, unit(16))...), backwards(neighbours(16, 0, 16)), backwards(rings(16, 0, 2, 2, 2, 2, 2, 2, 2, 2)),
		group(16, parse(16, "(0 1)", "(2 3)", "(0 2)(1 3)", "(4 5)", "(6 7)", "(4 6)(5 7)", "(0 4)(1 5)(2 6)(3 7)", "(8 9)", "(10 11)", "(8 10)(9 11)", "(12 13)", "(14 15)", "(12 14)(13 15)", "(8 12)(9 13)(10 14)(11 15)", "(0 8)(1 9)(2 10)(3 11)(4 12)(5 13)(6 14)(7 15)", "(0 15 1)")...),
		group(11, parse(11, "(0 1 2 3 4 5 6 7 8 9 10)", "(2 6 10 7)(3 9 4 5)")...), group(12, parse(12, "(0 1 2 3 4 5 6 7 8 9 10)", "(2 6 10 7)(3 9 4 5)", "(0 11)(1 10)(2 5)(3 7)(4 8)(6 9)")...),
		group(16, affine(4)...), group(8, affine(3)...), group(16, cycle(16, 0, 3), cycle(16, 1, 15)),
	}
	for _, g := range slices.Concat(tiny(), medium()) {
		if g.Degree <= maxProgram {
			l = append(l, g)
		}
	}
	for i := range 300 {
		n := 2 + i%15
		g := group(n)
		for range r.Intn(api.MaxGens + 1) {
			a := api.Perm(r.Perm(n))
			// Such permutations generate groups of all kinds, not just those of all permutations.
			for range r.Intn(4) {
				a = mul(a, a)
			}
			g.Gens = append(g.Gens, a)
		}
		l = append(l, g)
	}
	return l
}

// backwards returns a group with its generators in the opposite order.
func backwards(g api.Group) api.Group {
	slices.Reverse(g.Gens)
	return g
}

// affine returns permutations of the 2^n vectors of n bits: an addition of a vector, a turn of the bits, and an addition of a bit to another one.
func affine(n int) []api.Perm {
	a, b, c := unit(1<<n), unit(1<<n), unit(1<<n)
	for i := range 1 << n {
		a[i] = i ^ 1
		b[i] = i<<1&(1<<n-1) | i>>(n-1)
		c[i] = i ^ i>>1&1
	}
	return []api.Perm{a, b, c}
}

// some returns the product of random generators of a group and their inverses.
func some(r *rand.Rand, g api.Group) api.Perm {
	x := unit(g.Degree)
	if len(g.Gens) == 0 {
		return x
	}
	for range r.Intn(100) {
		s := g.Gens[r.Intn(len(g.Gens))]
		if r.Intn(2) == 0 {
			s = inverse(s)
		}
		x = mul(x, s)
	}
	return x
}

// TestGreatPrograms tests P10.3 with groups of degrees up to 16: whether a permutation is an element is known from its chain.
func TestGreatPrograms(t *testing.T) {
	t.Parallel()
	r := rand.New(rand.NewSource(106))
	for _, g := range great(r) {
		c := must[api.Chain](t)(chain.Of(g))
		expectProgram(t, g, unit(g.Degree))
		for _, s := range g.Gens {
			expectProgram(t, g, s)
			expectProgram(t, g, inverse(s))
		}
		for range 5 {
			x := some(r, g)
			expectProgram(t, g, x)
			for _, y := range []api.Perm{r.Perm(g.Degree), mul(x, cycle(g.Degree, g.Degree-min(2, g.Degree), min(2, g.Degree)))} {
				if must[bool](t)(chain.In(c, y)) {
					expectProgram(t, g, y)
				} else {
					expectNoProgram(t, g, y, api.ErrNone)
				}
			}
		}
	}
}

// TestProgramDegrees tests P10.3: ErrOver for degrees greater than 16, even if the permutation is no element.
func TestProgramDegrees(t *testing.T) {
	t.Parallel()
	for n := 1; n <= api.MaxDegree; n++ {
		for _, g := range []api.Group{group(n), group(n, unit(n)), all(n, 0, n), rings(n, 0, (n+1)/2, n/2)} {
			for _, x := range append(g.Gens, unit(n), cycle(n, 0, n), cycle(n, 0, (n+1)/2)) {
				in := must[bool](t)(chain.In(must[api.Chain](t)(chain.Of(g)), x))
				switch {
				case n > 16:
					expectNoProgram(t, g, x, api.ErrOver)
				case !in:
					expectNoProgram(t, g, x, api.ErrNone)
				default:
					expectProgram(t, g, x)
				}
			}
		}
	}
}
