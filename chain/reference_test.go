package chain

import (
	"cmp"
	"fmt"
	"math/rand"
	"slices"
	"testing"

	"cayley/api"
	"cayley/perm"
)

// parse reads permutations of degree n.
func parse(n int, texts ...string) []api.Perm {
	var l []api.Perm
	for _, s := range texts {
		a, f := perm.Parse(s, n)
		if f != (api.Fault{}) {
			panic(s)
		}
		l = append(l, a)
	}
	return l
}

// of returns the group of degree n that permutations generate.
func of(n int, texts ...string) api.Group { return api.Group{Degree: n, Gens: parse(n, texts...)} }

// one returns the identity of degree n.
func one(n int) api.Perm { return from(n, func(i int) int { return i }) }

// from returns the permutation that maps each point as f does.
func from(n int, f func(i int) int) api.Perm {
	a := make(api.Perm, n)
	for i := range a {
		a[i] = f(i)
	}
	return a
}

// cycle returns the permutation of degree n that maps each of length points from first on to the next one, and the last to the first.
func cycle(n, first, length int) api.Perm {
	a := one(n)
	for i := range length {
		a[first+i] = first + (i+1)%length
	}
	return a
}

// mul returns a*b.
func mul(a, b api.Perm) api.Perm { return from(len(a), func(i int) int { return b[a[i]] }) }

// inv returns the inverse.
func inv(a api.Perm) api.Perm { return from(len(a), func(i int) int { return slices.Index(a, i) }) }

// all returns the group of all permutations of degree n.
func all(n int) api.Group {
	return api.Group{Degree: n, Gens: []api.Perm{cycle(n, 0, n), cycle(n, 0, min(n, 2))}}
}

// four returns h of the chapter's examples.
func four() api.Group { return of(4, "(0 1)(2 3)", "(0 2)(1 3)") }

// listed returns all elements of the group that permutations generate, in any order.
func listed(n int, gens []api.Perm) []api.Perm {
	l := []api.Perm{one(n)}
	found := map[[16]int]bool{short(l[0]): true}
	for i := 0; i < len(l); i++ {
		for _, s := range gens {
			if a := mul(l[i], s); !found[short(a)] {
				found[short(a)] = true
				l = append(l, a)
			}
		}
	}
	return l
}

// short returns a list of at most 16 numbers as a key for maps.
func short(l []int) (k [16]int) {
	if copy(k[:], l) != len(l) {
		panic(l)
	}
	return k
}

// textbook returns the chain of a group whose elements are given, by the words of the chapter.
func textbook(n int, elements []api.Perm) api.Chain {
	c := api.Chain{Degree: n}
	for i := range n {
		least := map[int]api.Perm{}
		for _, a := range elements {
			if r, found := least[a[i]]; slices.Equal(a[:i], one(i)) && (!found || slices.Compare(a, r) < 0) {
				least[a[i]] = a
			}
		}
		var orbit []int
		var reps []api.Perm
		for p := range n {
			if r, found := least[p]; found {
				orbit, reps = append(orbit, p), append(reps, slices.Clone(r))
			}
		}
		c.Orbits, c.Reps = append(c.Orbits, orbit), append(c.Reps, reps)
	}
	return c
}

// isOne says whether a permutation is the identity.
func isOne(a api.Perm) bool { return slices.IsSorted(a) }

// textbookSift sifts x by the words of the chapter.
func textbookSift(c api.Chain, x api.Perm) (api.Perm, int) {
	for i := range c.Degree {
		k := slices.Index(c.Orbits[i], x[i])
		if k < 0 {
			return x, i
		}
		x = mul(x, inv(c.Reps[i][k]))
	}
	return x, c.Degree
}

// copied returns a chain that shares no memory with c.
func copied(c api.Chain) api.Chain {
	d := api.Chain{Degree: c.Degree}
	for _, orbit := range c.Orbits {
		d.Orbits = append(d.Orbits, slices.Clone(orbit))
	}
	for _, reps := range c.Reps {
		var l []api.Perm
		for _, r := range reps {
			l = append(l, slices.Clone(r))
		}
		d.Reps = append(d.Reps, l)
	}
	return d
}

func samePerms(a, b []api.Perm) bool {
	return slices.EqualFunc(a, b, func(x, y api.Perm) bool { return slices.Equal(x, y) })
}

func same(c, d api.Chain) bool {
	return c.Degree == d.Degree && slices.EqualFunc(c.Orbits, d.Orbits, slices.Equal[[]int]) && slices.EqualFunc(c.Reps, d.Reps, samePerms)
}

// zero says whether a chain is the zero value, or has empty lists in its place.
func zero(c api.Chain) bool { return c.Degree == 0 && len(c.Orbits) == 0 && len(c.Reps) == 0 }

// must returns a function that returns the result of a call without an error.
func must[T any](t *testing.T) func(x T, e api.Errno) T {
	t.Helper()
	return func(x T, e api.Errno) T {
		t.Helper()
		if e != api.OK {
			t.Fatalf("error %d", int(e))
		}
		return x
	}
}

// chainOf returns the chain of a group without faults.
func chainOf(g api.Group) api.Chain {
	c, e := Of(g)
	if e != api.OK {
		panic(e)
	}
	return c
}

// subgroups returns the chains of all groups of degree n that two elements generate, by the textbook: up to degree 5 these are all groups.
func subgroups(n int) []api.Chain {
	every := listed(n, all(n).Gens)
	slices.SortFunc(every, func(a, b api.Perm) int { return slices.Compare(a, b) })
	found := map[string]bool{}
	var l []api.Chain
	for i, a := range every {
		for _, b := range every[:i+1] {
			elements := listed(n, []api.Perm{a, b})
			slices.SortFunc(elements, func(a, b api.Perm) int { return slices.Compare(a, b) })
			if name := fmt.Sprint(elements); !found[name] {
				found[name] = true
				l = append(l, textbook(n, elements))
			}
		}
	}
	slices.SortStableFunc(l, func(c, d api.Chain) int { return cmp.Compare(count(c), count(d)) })
	return l
}

// count returns the number of elements of a small group.
func count(c api.Chain) int {
	n := 1
	for _, orbit := range c.Orbits {
		n *= len(orbit)
	}
	return n
}

// small returns groups of at most 7,920 elements.
func small() []api.Group {
	l := []api.Group{
		{Degree: 1}, {Degree: 2}, {Degree: 7}, {Degree: 16}, of(1, "()"), of(1, "()", "()"), of(2, "()"), of(2, "(0 1)"), of(2, "()", "(0 1)", "()", "(0 1)"), of(5, "()", "()", "()"),
		all(3), all(4), all(5), all(6), all(7), four(), of(4, "(0 1 2)", "(2 3)"), of(4, "(0 2)(1 3)", "(0 1)(2 3)"), of(4, "(2 3)"), of(4, "(1 3)"), of(5, "(0 1 2)", "(3 4)"),
		of(6, "(0 1 2 3 4 5)", "(0 5 4 3 2 1)"), of(6, "(0 1 2)", "(0 2 1)(3 4 5)", "(0 3)"), of(6, "(2 3)"), of(6, "(0 5)(1 4)(2 3)", "(0 2 4)(1 3 5)"),
		of(8, "(0 1 2 3)(4 5 6 7)", "(0 4 2 6)(1 7 3 5)"), of(8, "(0 1)", "(0 2)(1 3)", "(0 4)(1 5)(2 6)(3 7)"), of(8, "(0 7)", "(6 7)", "(1 6)", "(2 4 3)", "(3 5)(2 4)"), of(8, "(0 2 4 6)", "(0 2)", "(1 3 5 7)", "(1 3)"),
		of(7, "(0 1 2 3 4 5 6)", "(1 2 4)(3 6 5)"), of(7, "(0 1 2)", "(2 3 4)", "(4 5 6)"), of(7, "(0 1 2 3 4 5 6)", "(1 2)(3 6)"), of(9, "(0 1 2)(3 4 5)(6 7 8)", "(0 3 6)(1 4 7)(2 5 8)", "(1 2)(4 5)(7 8)"),
		of(9, "(0 1 2)", "(0 3 6)(1 4 7)(2 5 8)"), of(10, "(0 9)(1 8)(2 7)(3 6)(4 5)", "(0 1 2 3 4)(9 8 7 6 5)"), of(11, "(0 1 2 3 4 5 6 7 8 9 10)", "(2 6 10 7)(3 9 4 5)"), of(12, "(0 1)(2 3)(4 5)", "(6 7 8 9 10 11)", "(0 11)(1 10)"),
	}
	r := rand.New(rand.NewSource(8))
	for i := range 150 {
		n := 1 + i%7
		g := api.Group{Degree: n}
		for range r.Intn(5) {
			a := api.Perm(r.Perm(n))
			if i%3 > 0 {
				a = swap(r, n)
			}
			if i%3 > 1 {
				a = mul(a, swap(r, n))
			}
			g.Gens = append(g.Gens, a)
		}
		if len(g.Gens) > 0 && r.Intn(4) == 0 {
			g.Gens = append(g.Gens, g.Gens[r.Intn(len(g.Gens))])
		}
		l = append(l, g)
	}
	return l
}

// swap returns a permutation that moves at most two points.
func swap(r *rand.Rand, n int) api.Perm {
	a := one(n)
	i, k := r.Intn(n), r.Intn(n)
	a[i], a[k] = a[k], a[i]
	return a
}

// known is a group of great degree or order, with its number of elements.
type known struct {
	name  string
	g     api.Group
	order api.Num
}

// great returns groups whose orders are known.
func great() []known {
	flip := func(n, k, length int) api.Perm {
		return from(n, func(i int) int {
			if i < length {
				return i ^ k
			}
			return i
		})
	}
	r := rand.New(rand.NewSource(88))
	spread := func(n int, l []api.Perm) api.Group {
		x := api.Perm(r.Perm(n))
		g := api.Group{Degree: n}
		for _, a := range l {
			g.Gens = append(g.Gens, mul(inv(x), mul(a, x)))
		}
		return g
	}
	sylow := []api.Perm{flip(64, 32, 64), flip(64, 16, 32), flip(64, 8, 16), flip(64, 4, 8), flip(64, 2, 4), flip(64, 1, 2)}
	wreath := []api.Perm{cycle(64, 0, 8), cycle(64, 0, 2), from(64, func(i int) int { return (i + 8) % 64 }), flip(64, 8, 16)}
	affine := []api.Perm{flip(64, 1, 64), from(64, func(i int) int { return i<<1&63 | i>>5 }), from(64, func(i int) int { return i ^ i&1<<1 })}
	// The points of the projective line modulo 61, the last one at infinity.
	line := []api.Perm{cycle(62, 0, 61), append(from(61, func(i int) int { return 4 * i % 61 }), 61), from(62, func(i int) int {
		switch i {
		case 0:
			return 61
		case 61:
			return 0
		}
		k := 1
		for k*i%61 != 60 {
			k++
		}
		return k
	})}
	even := []api.Perm{cycle(64, 1, 63), cycle(64, 0, 3)}
	parity := []api.Perm{from(64, func(i int) int { return (i + 2) % 64 }), parse(64, "(0 2)")[0], parse(64, "(1 3)")[0]}
	mathieu := parse(24, "(0 1 2 3 4 5 6 7 8 9 10 11 12 13 14 15 16 17 18 19 20 21 22)", "(2 16 9 6 8)(3 12 13 18 4)(7 17 10 11 22)(14 19 21 20 15)", "(0 23)(1 22)(2 11)(3 15)(4 17)(5 9)(6 19)(7 13)(8 20)(10 16)(12 21)(14 18)")
	parts := []api.Perm{cycle(64, 0, 10), cycle(64, 0, 2), cycle(64, 10, 20), cycle(64, 10, 2), cycle(64, 31, 32)}
	const (
		factorial64 api.Num = "126886932185884164103433389335161480802865516174545192198801894375214704230400000000000000"
		half64      api.Num = "63443466092942082051716694667580740401432758087272596099400947187607352115200000000000000"
	)
	return []known{
		{"nothing of 64", api.Group{Degree: 64}, "1"}, {"a swap of 64", of(64, "(62 63)"), "2"}, {"the ring of 64", api.Group{Degree: 64, Gens: []api.Perm{cycle(64, 0, 64)}}, "64"},
		{"all of 20", all(20), "2432902008176640000"}, {"all of 21", all(21), "51090942171709440000"}, {"all of 64", all(64), factorial64}, {"all of 64 at random", api.Group{Degree: 64, Gens: []api.Perm{cycle(64, 0, 64), r.Perm(64), r.Perm(64)}}, factorial64},
		{"even ones of 64", api.Group{Degree: 64, Gens: even}, half64}, {"even ones of 64, spread", spread(64, even), half64},
		{"parity", api.Group{Degree: 64, Gens: parity}, "69237837345426015193166198943959583654468513190741907865600000000000000"},
		{"sylow", api.Group{Degree: 64, Gens: sylow}, "9223372036854775808"}, {"sylow, spread", spread(64, sylow), "9223372036854775808"},
		{"wreath", api.Group{Degree: 64, Gens: wreath}, "281633758444745849464726940024832000000000"}, {"wreath, spread", spread(64, wreath), "281633758444745849464726940024832000000000"},
		{"affine", api.Group{Degree: 64, Gens: affine}, "1290157424640"}, {"affine, spread", spread(64, affine), "1290157424640"}, {"line", api.Group{Degree: 62, Gens: line}, "113460"}, {"line, spread", spread(62, line), "113460"},
		{"mathieu", api.Group{Degree: 24, Gens: mathieu}, "244823040"}, {"mathieu, spread", spread(24, mathieu), "244823040"},
		{"parts", api.Group{Degree: 64, Gens: parts}, product(10, 20, 32)}, {"parts, spread", spread(64, parts), product(10, 20, 32)},
	}
}

// product returns a!*b!*n.
func product(a, b, n int) api.Num {
	x := api.Num("1")
	for _, m := range []int{a, b} {
		for k := 2; k <= m; k++ {
			x, _ = perm.Times(x, k)
		}
	}
	x, _ = perm.Times(x, n)
	return x
}
