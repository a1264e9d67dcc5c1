package chain

import (
	"slices"
	"testing"

	"cayley/api"
)

// pieces returns all lists of numbers of a chain.
func pieces(c api.Chain) [][]int {
	l := slices.Clone(c.Orbits)
	for _, reps := range c.Reps {
		for _, r := range reps {
			l = append(l, r)
		}
	}
	return l
}

// lists returns permutations as lists.
func lists(l []api.Perm) [][]int { return pieces(api.Chain{Reps: [][]api.Perm{l}}) }

// results returns calls of all functions, whose results are returned as lists; and each call's arguments, as lists.
func results(g api.Group, c, d api.Chain, x api.Perm, numbers []int) (calls map[string]func() [][]int, arguments [][]int) {
	calls = map[string]func() [][]int{
		"Make":   func() [][]int { c, _ := Make(g.Degree, g.Gens); return pieces(c) },
		"Of":     func() [][]int { c, _ := Of(g); return pieces(c) },
		"Random": func() [][]int { c, _ := Random(g, numbers); return pieces(c) },
		"Check":  func() [][]int { return [][]int{{int(Check(c))}} },
		"Order":  func() [][]int { n, _ := Order(c); return [][]int{{len(n), int(n[0])}} },
		"Sift":   func() [][]int { r, level, _ := Sift(c, x); return [][]int{r, {level}} },
		"In":     func() [][]int { is, _ := In(c, x); return [][]int{{len(map[bool]int{is: 1, true: 1})}} },
		"Below":  func() [][]int { is, _ := Below(c, d); return [][]int{{len(map[bool]int{is: 1, true: 1})}} },
		"Stab":   func() [][]int { s, _ := Stab(c, c.Degree/2); return pieces(s) },
		"Stab 0": func() [][]int { s, _ := Stab(c, 0); return pieces(s) },
		"Strong": func() [][]int { l, _ := Strong(c); return lists(l) },
	}
	return calls, slices.Concat(lists(g.Gens), pieces(c), pieces(d), [][]int{x, numbers})
}

func sameLists(a, b [][]int) bool { return slices.EqualFunc(a, b, slices.Equal[[]int]) }

// kept returns lists that share no memory with l.
func kept(l [][]int) [][]int {
	var c [][]int
	for _, x := range l {
		c = append(c, slices.Clone(x))
	}
	return c
}

// spoil writes into all lists of a result, as far as they can grow, and reports lists that share memory.
func spoil(t *testing.T, name string, result [][]int) {
	t.Helper()
	for i, l := range result {
		before := kept(result[i+1:])
		l = l[:cap(l)]
		for k := range l {
			l[k] = -7
		}
		if !sameLists(result[i+1:], before) {
			t.Fatalf("%s: the list %d shares memory with others", name, i)
		}
	}
}

// TestMemory tests R4 and P2: arguments stay as they were; what is written into a result changes neither them nor a later result of the same call, which is the same.
func TestMemory(t *testing.T) {
	for _, g := range append(small()[:40], api.Group{Degree: 63}, api.Group{Degree: 64, Gens: []api.Perm{cycle(64, 0, 20), cycle(64, 30, 7)}}) {
		n := g.Degree
		calls, arguments := results(g, chainOf(g), chainOf(api.Group{Degree: n, Gens: []api.Perm{cycle(n, 0, n)}}), cycle(n, n/3, n-n/3), []int{0, 1, 2, 3, -1, -2, 5})
		before := kept(arguments)
		for name, f := range calls {
			first := f()
			wanted := kept(first)
			spoil(t, name, first)
			if !sameLists(arguments, before) {
				t.Fatalf("%s changes its arguments, or shares memory with them", name)
			}
			if again := f(); !sameLists(again, wanted) {
				t.Fatalf("%s = %v, before %v", name, again, wanted)
			}
		}
	}
}

// TestSlices tests R4: the lists of lists of a result share no memory, as far as they can grow.
func TestSlices(t *testing.T) {
	c := chainOf(of(7, "(0 1 2)", "(2 3 4)", "(4 5 6)"))
	s := must[api.Chain](t)(Stab(c, 3))
	whole := chainOf(all(7))
	for _, d := range []api.Chain{s, c, whole} {
		before := copied(d)
		for i := range d.Reps {
			_ = append(d.Reps[i], nil)
			_ = append(d.Orbits[i], -1)
			if !same(d, before) {
				t.Fatalf("a list of the level %d grows into another one", i)
			}
		}
	}
	for i := range s.Reps {
		clear(s.Reps[i])
	}
	clear(s.Reps)
	clear(s.Orbits)
	if !same(c, chainOf(of(7, "(0 1 2)", "(2 3 4)", "(4 5 6)"))) {
		t.Fatal("Stab shares memory with its argument")
	}
	l := must[[]api.Perm](t)(Strong(c))
	clear(l)
	if Check(c) != api.OK {
		t.Fatal("Strong shares memory with its argument")
	}
}

// TestSharedArguments tests R4: the lists of an argument may share memory with each other, and empty lists may be nil or not.
func TestSharedArguments(t *testing.T) {
	a := cycle(6, 0, 6)
	g := api.Group{Degree: 6, Gens: []api.Perm{a, a, a}}
	c := must[api.Chain](t)(Of(g))
	if !same(c, chainOf(of(6, "(0 1 2 3 4 5)"))) || !slices.Equal(a, cycle(6, 0, 6)) {
		t.Errorf("Of(%v) = %v", g, c)
	}
	points := []int{0, 1, 2, 3}
	trivial := api.Chain{Degree: 4, Reps: [][]api.Perm{{points}, {points}, {points}, {points}}, Orbits: [][]int{points[:1], points[1:2], points[2:3], points[3:]}}
	if e := Check(trivial); e != api.OK {
		t.Errorf("Check of lists that share memory: error %d", int(e))
	}
	s := must[api.Chain](t)(Stab(trivial, 2))
	spoil(t, "Stab", pieces(s))
	if !slices.Equal(points, []int{0, 1, 2, 3}) {
		t.Errorf("Stab shares memory with its argument: %v", points)
	}
	for _, numbers := range [][]int{nil, {}} {
		for _, gens := range [][]api.Perm{nil, {}} {
			if d := must[api.Chain](t)(Random(api.Group{Degree: 4, Gens: gens}, numbers)); Check(d) != api.OK || count(d) != 1 {
				t.Errorf("Random(%v, %v) = %v", gens, numbers, d)
			}
		}
	}
}
