package orbit

import (
	"slices"
	"testing"

	"cayley/api"
)

// results returns calls of all functions, whose results are returned as lists.
func results(g api.Group, p, q int, set, tuple []int) map[string]func() [][]int {
	return map[string]func() [][]int{
		"Check":  func() [][]int { return [][]int{{int(Check(g))}} },
		"Orbit":  func() [][]int { l, _ := Orbit(g, p); return [][]int{l} },
		"Orbits": func() [][]int { l, _ := Orbits(g); return l },
		"Tree": func() [][]int {
			points, parents, gens, _ := Tree(g, p)
			return [][]int{points, parents, gens}
		},
		"Path":   func() [][]int { w, _ := Path(g, p, q); return [][]int{w} },
		"Stab":   func() [][]int { l, _ := Stab(g, p); return lists(l) },
		"Sets":   func() [][]int { l, _ := Sets(g, set); return l },
		"Tuples": func() [][]int { l, _ := Tuples(g, tuple); return l },
	}
}

// copyOf returns lists that share no memory with l.
func copyOf(l [][]int) [][]int {
	var c [][]int
	for _, x := range l {
		c = append(c, slices.Clone(x))
	}
	return c
}

// spoil writes into all lists of a result, as far as they can grow, and reports lists that share memory.
func spoil(t *testing.T, name string, result [][]int) {
	t.Helper()
	kept := copyOf(result)
	for i, l := range result {
		l = l[:cap(l)]
		for k := range l {
			l[k] = -7
		}
		if !same(result[i+1:], kept[i+1:]) {
			t.Fatalf("%s: the list %d shares memory with others", name, i)
		}
	}
}

// TestMemory tests R4: arguments stay as they were, and what is written into a result changes neither them nor a later result.
func TestMemory(t *testing.T) {
	groups := append(small()[:28], api.Group{Degree: 64}, cycles(64, 63), cycles(64, 7, 8, 9, 10), api.Group{Degree: 7}, of(7, "()"), of(7, "(5 6)", "(4 5 6)", "()", "(5 6)"))
	for _, g := range groups {
		n := g.Degree
		set, tuple := identity(n)[:(n+1)/2], []int{n - 1, 0, n - 1, n / 2}
		gens, setBefore, tupleBefore := copyOf(lists(g.Gens)), slices.Clone(set), slices.Clone(tuple)
		for _, p := range []int{0, n / 2, n - 1} {
			for name, f := range results(g, p, g.Degree/2, set, tuple) {
				first := f()
				kept := copyOf(first)
				spoil(t, name, first)
				want(t, name, f(), api.OK, kept, api.OK)
				want(t, "the generators", lists(g.Gens), api.OK, gens, api.OK)
				wantList(t, "the set", set, api.OK, setBefore, api.OK)
				wantList(t, "the tuple", tuple, api.OK, tupleBefore, api.OK)
			}
		}
	}
}

// TestPieces tests R4: arguments that share memory with each other are as good as others, and what stands behind them stays as it was.
func TestPieces(t *testing.T) {
	array := []int{1, 2, 0, 3, 4, 0, 1, 2, 4, 3, 0, 3, 9, 9, 9, 9}
	before := slices.Clone(array)
	gens := []api.Perm{array[:5], array[5:10], {9}, {9}}
	g := api.Group{Degree: 5, Gens: gens[:2]}
	for name, f := range results(g, 0, 2, array[10:12], array[10:12]) {
		wanted := results(example(), 0, 2, []int{0, 3}, []int{0, 3})[name]()
		result := f()
		want(t, name, result, api.OK, wanted, api.OK)
		spoil(t, name, result)
		wantList(t, "the array", array, api.OK, before, api.OK)
	}
	want(t, "the generators", lists(gens), api.OK, [][]int{array[:5], array[5:10], {9}, {9}}, api.OK)
}

// TestSharedGenerators tests R4: one list may be a generator several times, and a set or a tuple, too.
func TestSharedGenerators(t *testing.T) {
	a := cycle(6, 0, 6)
	g := api.Group{Degree: 6, Gens: []api.Perm{a, a, a}}
	for name, f := range results(g, 0, 3, identity(6)[:2], a) {
		wanted := results(api.Group{Degree: 6, Gens: []api.Perm{cycle(6, 0, 6), cycle(6, 0, 6), cycle(6, 0, 6)}}, 0, 3, []int{0, 1}, []int{1, 2, 3, 4, 5, 0})[name]()
		result := f()
		want(t, name, result, api.OK, wanted, api.OK)
		spoil(t, name, result)
		wantList(t, "the generator", a, api.OK, cycle(6, 0, 6), api.OK)
	}
}
