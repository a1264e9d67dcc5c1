package orbit

import (
	"math"
	"slices"
	"testing"

	"cayley/api"
	"cayley/perm"
)

func same(a, b [][]int) bool { return slices.EqualFunc(a, b, slices.Equal[[]int]) }

// want reports another list of lists or another error than the expected one.
func want(t *testing.T, name string, l [][]int, e api.Errno, wanted [][]int, wantedError api.Errno) {
	t.Helper()
	if e != wantedError || !same(l, wanted) {
		t.Fatalf("%s = %v, error %d, want %v, error %d", name, l, int(e), wanted, int(wantedError))
	}
}

// wantList is want for a single list.
func wantList(t *testing.T, name string, l []int, e api.Errno, wanted []int, wantedError api.Errno) {
	t.Helper()
	want(t, name, [][]int{l}, e, [][]int{wanted}, wantedError)
}

// lists returns permutations as lists.
func lists(l []api.Perm) [][]int {
	var r [][]int
	for _, a := range l {
		r = append(r, a)
	}
	return r
}

// TestCheckDegrees tests P7.1: which degrees there are, and that no other error comes before this one.
func TestCheckDegrees(t *testing.T) {
	for n := 1; n <= 64; n++ {
		for _, count := range []int{0, 1, 2, 15, 16} {
			g := api.Group{Degree: n}
			for i := range count {
				g.Gens = append(g.Gens, cycle(n, 0, 1+i%n))
			}
			if e := Check(g); e != api.OK {
				t.Errorf("Check of degree %d with %d generators: error %d", n, count, int(e))
			}
		}
	}
	for _, n := range badDegrees() {
		for _, gens := range [][]api.Perm{nil, {}, {identity(1)}, {nil}, {{0, 0}}, {identity(min(max(n, 0), 100))}, make([]api.Perm, 17)} {
			if e := Check(api.Group{Degree: n, Gens: gens}); e != api.ErrRange {
				t.Errorf("Check of degree %d with %d generators: error %d", n, len(gens), int(e))
			}
		}
	}
}

// badDegrees are no degrees.
func badDegrees() []int {
	return []int{math.MinInt, math.MinInt + 1, -1 << 32, -65, -64, -2, -1, 0, 65, 66, 100, 128, 1 << 32, 1<<32 + 1, math.MaxInt - 1, math.MaxInt}
}

// TestCheckNumber tests P7.1: how many generators there may be, and that this comes before their own errors.
func TestCheckNumber(t *testing.T) {
	for _, n := range []int{1, 2, 63, 64} {
		for _, count := range []int{17, 18, 32, 64, 1000} {
			for _, a := range []api.Perm{identity(n), nil, {0, 0}, identity(n + 1), identity(65)} {
				if e := Check(api.Group{Degree: n, Gens: slices.Repeat([]api.Perm{a}, count)}); e != api.ErrLong {
					t.Errorf("Check of degree %d with %d generators %v: error %d", n, count, a, int(e))
				}
			}
		}
	}
}

// badGenerators returns lists that are no generators of degree n, with their errors.
func badGenerators(n int) []struct {
	a api.Perm
	e api.Errno
} {
	l := []struct {
		a api.Perm
		e api.Errno
	}{
		{nil, api.ErrRange}, {api.Perm{}, api.ErrRange}, {identity(65), api.ErrRange}, {make(api.Perm, 65), api.ErrRange}, {make(api.Perm, 1000), api.ErrRange},
		{api.Perm{1}, api.ErrForm}, {api.Perm{-1}, api.ErrForm}, {api.Perm{0, 0}, api.ErrForm}, {api.Perm{0, 1, 1}, api.ErrForm}, {api.Perm{math.MaxInt, math.MinInt}, api.ErrForm}, {make(api.Perm, 64), api.ErrForm}, // Most are of another degree, too.
		{append(identity(n)[1:], n), api.ErrForm}, {append(identity(n)[1:], -1), api.ErrForm}, {append(identity(n)[1:], math.MinInt), api.ErrForm},
	}
	for _, k := range []int{1, 2, n - 1, n + 1, 63, 64} {
		if k != n && k > 0 && k <= 64 {
			l = append(l, struct {
				a api.Perm
				e api.Errno
			}{cycle(k, 0, k), api.ErrType})
		}
	}
	return l
}

// TestCheckGenerators tests P7.1: generators with faults, at all places, alone and two of them.
func TestCheckGenerators(t *testing.T) {
	for _, n := range []int{1, 2, 3, 63, 64} {
		for _, count := range []int{1, 2, 3, 16} {
			for _, x := range badGenerators(n) {
				for i := range count {
					g := api.Group{Degree: n, Gens: slices.Repeat([]api.Perm{cycle(n, 0, n)}, count)}
					g.Gens[i] = x.a
					if e := Check(g); e != x.e {
						t.Fatalf("Check of degree %d with the generator %v: error %d, want %d", n, x.a, int(e), int(x.e))
					}
					for _, y := range badGenerators(n) {
						for k := i + 1; k < count; k++ {
							g.Gens[k] = y.a
							if e := Check(g); e != x.e {
								t.Fatalf("Check of degree %d with the generators %v and %v: error %d, want %d", n, x.a, y.a, int(e), int(x.e))
							}
							g.Gens[k] = identity(n)
						}
					}
				}
			}
		}
	}
}

// TestCheckExamples tests P7.1 with the chapter's examples.
func TestCheckExamples(t *testing.T) {
	for _, x := range []struct {
		g api.Group
		e api.Errno
	}{
		{example(), api.OK}, {api.Group{}, api.ErrRange}, {api.Group{Degree: 0, Gens: parse(5, "()")}, api.ErrRange}, {api.Group{Degree: 65}, api.ErrRange},
		{api.Group{Degree: 5, Gens: slices.Repeat(parse(5, "(0 1 2)"), 17)}, api.ErrLong}, {api.Group{Degree: 3, Gens: []api.Perm{{0, 1}}}, api.ErrType},
	} {
		if e := Check(x.g); e != x.e {
			t.Errorf("Check(%v): error %d, want %d", x.g, int(e), int(x.e))
		}
	}
}

// TestOrbitExamples tests P7.2 with the chapter's examples.
func TestOrbitExamples(t *testing.T) {
	l, e := Orbit(example(), 1)
	wantList(t, "Orbit(g, 1)", l, e, []int{0, 1, 2}, api.OK)
	l, e = Orbit(example(), 5)
	wantList(t, "Orbit(g, 5)", l, e, nil, api.ErrRange)
	orbits, e := Orbits(example())
	want(t, "Orbits(g)", orbits, e, [][]int{{0, 1, 2}, {3, 4}}, api.OK)
}

// TestOrbits tests P7.2: orbits that are known, among them some whose points lie far apart.
func TestOrbits(t *testing.T) {
	var single [][]int
	for p := range 64 {
		single = append(single, []int{p})
	}
	for _, x := range []struct {
		g      api.Group
		wanted [][]int
	}{
		{api.Group{Degree: 1}, single[:1]}, {of(1, "()"), single[:1]}, {api.Group{Degree: 2}, single[:2]}, {of(2, "()", "()"), single[:2]}, {of(2, "(0 1)"), [][]int{{0, 1}}},
		{api.Group{Degree: 63}, single[:63]}, {api.Group{Degree: 64}, single}, {api.Group{Degree: 64, Gens: slices.Repeat([]api.Perm{identity(64)}, 16)}, single},
		{cycles(63, 63), [][]int{sequence(0, 63)}}, {cycles(64, 64), [][]int{sequence(0, 64)}}, {cycles(64, 63), [][]int{sequence(0, 63), {63}}}, {cycles(64, 1, 63), [][]int{{0}, sequence(1, 63)}},
		{of(7, "(6 0)", "(5 1)", "(4 2)"), [][]int{{0, 6}, {1, 5}, {2, 4}, {3}}}, {of(7, "(6 4 2 0)", "(1 5)"), [][]int{{0, 2, 4, 6}, {1, 5}, {3}}}, {of(6, "(5 4)", "(4 3)", "(3 0)"), [][]int{{0, 3, 4, 5}, {1}, {2}}},
		{of(64, "(63 0)", "(1 62)", "(62 63)"), append([][]int{{0, 1, 62, 63}}, single[2:62]...)},
	} {
		orbits, e := Orbits(x.g)
		want(t, "Orbits", orbits, e, x.wanted, api.OK)
	}
}

// TestOrbitsEvery tests P7.2: the orbits of many groups, against parts that generators join.
func TestOrbitsEvery(t *testing.T) {
	for _, g := range append(small(), great()...) {
		part := parts(g)
		var wanted [][]int
		for p := range g.Degree {
			orbit, e := Orbit(g, p)
			wantList(t, "Orbit", orbit, e, partOf(part, part[p]), api.OK)
			if part[p] == p {
				wanted = append(wanted, partOf(part, p))
			}
		}
		orbits, e := Orbits(g)
		want(t, "Orbits", orbits, e, wanted, api.OK)
	}
}

// TestOrbitIsImages tests P7.2: an orbit consists of the images under all elements.
func TestOrbitIsImages(t *testing.T) {
	for _, g := range small() {
		all := elements(g)
		for p := range g.Degree {
			images := map[int]bool{}
			for _, a := range all {
				images[a[p]] = true
			}
			l, e := Orbit(g, p)
			if e != api.OK || len(l) != len(images) || slices.ContainsFunc(l, func(q int) bool { return !images[q] }) || !slices.IsSorted(l) {
				t.Fatalf("Orbit(%v, %d) = %v, error %d", g, p, l, int(e))
			}
		}
	}
}

// TestPartition tests P7.6: orbits are a partition of the points, and each generator maps each orbit to itself.
func TestPartition(t *testing.T) {
	for _, g := range append(small(), great()...) {
		orbits, e := Orbits(g)
		if e != api.OK {
			t.Fatalf("Orbits(%v): error %d", g, int(e))
		}
		points := slices.Concat(orbits...)
		slices.Sort(points)
		wantList(t, "the points of orbits", points, e, identity(g.Degree), api.OK)
		for _, orbit := range orbits {
			for _, s := range g.Gens {
				var image []int
				for _, p := range orbit {
					image = append(image, s[p])
				}
				slices.Sort(image)
				wantList(t, "the image of an orbit", image, perm.Check(s), orbit, api.OK)
			}
		}
	}
}
