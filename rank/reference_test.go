package rank

import (
	"math/rand"
	"slices"
	"testing"

	"cayley/api"
	"cayley/chain"
	"cayley/perm"
)

// parse reads permutations of degree n.
func parse(n int, texts ...string) []api.Perm {
	var l []api.Perm
	for _, s := range texts {
		a, f := perm.Parse(s, n)
		if f != (api.Fault{}) {
			panic(s)
		}
		l = append(l, a)
	}
	return l
}

// identity returns the identity of degree n.
func identity(n int) api.Perm {
	a, e := perm.One(n)
	if e != api.OK {
		panic(e)
	}
	return a
}

// times returns the product of permutations of one degree.
func times(a api.Perm, l ...api.Perm) api.Perm {
	for _, b := range l {
		var e api.Errno
		if a, e = perm.Mul(a, b); e != api.OK {
			panic(e)
		}
	}
	return a
}

// cycle returns the permutation of degree n that maps each of length points from first on to the next one, and the last to the first.
func cycle(n, first, length int) api.Perm {
	a := identity(n)
	for i := range length {
		a[first+i] = first + (i+1)%length
	}
	return a
}

// all returns generators of the group of degree n of all permutations of length points from first on.
func all(n, first, length int) []api.Perm {
	return []api.Perm{cycle(n, first, length), cycle(n, first, min(length, 2))}
}

// even returns generators of the group of degree n of the even permutations of length points from first on.
func even(n, first, length int) []api.Perm {
	return []api.Perm{cycle(n, first+1-length%2, length-1+length%2), cycle(n, first, 3)}
}

// rings returns generators of the group of degree n in which rings of the given lengths turn, one behind the other, from the point first on.
func rings(n, first int, lengths ...int) []api.Perm {
	var l []api.Perm
	for _, length := range lengths {
		l = append(l, cycle(n, first, length))
		first += length
	}
	return l
}

// made returns the chain of the group of degree n that permutations generate.
func made(n int, gens ...api.Perm) api.Chain {
	c, e := chain.Make(n, gens)
	if e != api.OK {
		panic(e)
	}
	return c
}

// short returns a list of at most 16 numbers as a key for maps.
func short(l []int) (k [16]int) {
	if copy(k[:], l) != len(l) {
		panic(l)
	}
	return k
}

// listed returns all elements of the group of degree n that permutations generate, ascending.
func listed(n int, gens []api.Perm) []api.Perm {
	l := []api.Perm{identity(n)}
	found := map[[16]int]bool{short(l[0]): true}
	for i := 0; i < len(l); i++ {
		for _, s := range gens {
			if a := times(l[i], s); !found[short(a)] {
				found[short(a)] = true
				l = append(l, a)
			}
		}
	}
	slices.SortFunc(l, before)
	return l
}

// before compares permutations lexicographically.
func before(a, b api.Perm) int { return slices.Compare(a, b) }

// leastOf returns the least product of one of the elements and x, by trying all of them.
func leastOf(elements []api.Perm, x api.Perm) api.Perm {
	least := times(elements[0], x)
	for _, h := range elements[1:] {
		if y := times(h, x); before(y, least) < 0 {
			least = y
		}
	}
	return least
}

// cosetsOf returns the least elements of the cosets of a group and of the elements of another one that contains it, ascending; both are given as lists of all elements.
func cosetsOf(elements, whole []api.Perm) []api.Perm {
	covered := map[[16]int]bool{}
	var l []api.Perm
	for _, x := range whole {
		if covered[short(x)] {
			continue
		}
		l = append(l, x)
		for _, h := range elements {
			covered[short(times(h, x))] = true
		}
	}
	return l
}

// contains says whether each of some permutations is one of a list that ascends.
func contains(whole, l []api.Perm) bool {
	for _, x := range l {
		if _, is := slices.BinarySearchFunc(whole, x, before); !is {
			return false
		}
	}
	return true
}

func samePerms(a, b []api.Perm) bool {
	return slices.EqualFunc(a, b, func(x, y api.Perm) bool { return slices.Equal(x, y) })
}

// group is a group with all of its elements, ascending.
type group struct {
	c        api.Chain
	elements []api.Perm
}

// subgroups returns all groups of degree n that two elements generate: up to degree 5 these are all groups.
func subgroups(n int) []group {
	every := listed(n, all(n, 0, n))
	found := map[string]bool{}
	var l []group
	for i, a := range every {
		for _, b := range every[:i+1] {
			elements := listed(n, []api.Perm{a, b})
			name := ""
			for _, x := range elements {
				for _, p := range x {
					name += string(rune('0' + p))
				}
			}
			if !found[name] {
				found[name] = true
				l = append(l, group{made(n, a, b), elements})
			}
		}
	}
	return l
}

// small returns groups of degrees from 1 to 16, of at most 5,040 elements.
func small() []group {
	var l []group
	add := func(n int, gens ...api.Perm) { l = append(l, group{made(n, gens...), listed(n, gens)}) }
	for _, n := range []int{1, 2, 3, 9, 16} {
		add(n)
	}
	for n := 2; n <= 7; n++ {
		add(n, all(n, 0, n)...)
	}
	add(10, all(10, 2, 6)...)
	add(16, all(16, 9, 7)...)
	add(16, slices.Concat(all(16, 0, 4), all(16, 5, 5))...)
	add(7, even(7, 0, 7)...)
	add(9, even(9, 3, 6)...)
	add(16, rings(16, 0, 3, 7, 6)...)
	add(12, rings(12, 1, 11)...)
	for _, texts := range [][]string{
		{"(2 3)"}, {"(0 1)(2 3)", "(0 2)(1 3)"}, {"(0 1 2)", "(3 4)"}, {"(0 1 2 3 4 5)", "(1 5)(2 4)"}, {"(0 5)(1 4)(2 3)", "(0 2 4)(1 3 5)"}, {"(0 7)(1 6)", "(1 6)(2 5)"},
		{"(0 1 2 3)(4 5 6 7)", "(0 4 2 6)(1 7 3 5)"}, {"(0 1)", "(0 2)(1 3)", "(0 4)(1 5)(2 6)(3 7)"}, {"(0 1 2 3 4 5 6)", "(1 2 4)(3 6 5)"}, {"(0 1 2 3 4 5 6)", "(1 2)(3 6)"},
	} {
		add(8, parse(8, texts...)...)
	}
	for _, texts := range [][]string{
		{"(0 1 2)", "(0 3 6)(1 4 7)(2 5 8)"}, {"(0 1 2 3 4 5 6 7 8 9 10)", "(1 3 9 5 4)(2 6 7 10 8)"}, {"(0 9)(1 8)(2 7)(3 6)(4 5)", "(0 1 2 3 4)(9 8 7 6 5)"}, {"(0 11)(1 10)", "(2 4 6 8)(3 5 7 9)", "(2 3)(4 5)(6 7)(8 9)"},
	} {
		add(12, parse(12, texts...)...)
	}
	r := rand.New(rand.NewSource(9))
	for i := range 60 {
		n := 4 + i%4
		var gens []api.Perm
		for range 1 + r.Intn(2) {
			// Such permutations generate groups of all kinds, not just those of all permutations.
			a := api.Perm(r.Perm(n))
			gens = append(gens, times(a, a, a, a))
		}
		add(n, gens...)
	}
	return l
}

// must returns a function that returns the result of a call without an error.
func must[T any](t *testing.T) func(x T, e api.Errno) T {
	t.Helper()
	return func(x T, e api.Errno) T {
		t.Helper()
		if e != api.OK {
			t.Fatalf("error %d", int(e))
		}
		return x
	}
}

// badPerm is a list that is no permutation of a degree, with its error.
type badPerm struct {
	x api.Perm
	e api.Errno
}

// badPerms returns lists that are no permutations of the degree n.
func badPerms(n int) []badPerm {
	l := []badPerm{
		{nil, api.ErrRange}, {api.Perm{}, api.ErrRange}, {make(api.Perm, 65), api.ErrRange}, {make(api.Perm, 1000), api.ErrRange},
		{api.Perm{1}, api.ErrForm}, {api.Perm{-1}, api.ErrForm}, {api.Perm{0, 0}, api.ErrForm}, {make(api.Perm, 64), api.ErrForm},
		{append(identity(n)[1:], n), api.ErrForm}, {append(identity(n)[1:], -1), api.ErrForm}, {append(identity(n)[1:], 256), api.ErrForm},
	}
	for _, k := range []int{1, 2, n - 1, n + 1, 63, 64} {
		if k != n && k >= 1 && k <= 64 {
			l = append(l, badPerm{identity(k), api.ErrType}, badPerm{cycle(k, 0, k), api.ErrType})
		}
	}
	return l
}

// badChain is a chain that is not valid, with its error.
type badChain struct {
	c api.Chain
	e api.Errno
}

// badChains returns chains that are not valid.
func badChains() []badChain {
	four := func() api.Chain { return made(4, parse(4, "(0 1)(2 3)", "(0 2)(1 3)")...) }
	part, low, high, other := four(), four(), four(), four()
	part.Orbits[0], part.Reps[0] = part.Orbits[0][:3], part.Reps[0][:3]
	low.Degree, high.Degree = 3, 5
	other.Reps[0][1] = parse(4, "(0 1)")[0]
	// 0 and 65 are no degrees, whatever else is wrong.
	none, many := four(), four()
	none.Degree, many.Degree = 0, 65
	return []badChain{
		{api.Chain{}, api.ErrRange}, {api.Chain{Degree: -1}, api.ErrRange}, {none, api.ErrRange}, {many, api.ErrRange},
		{api.Chain{Degree: 1}, api.ErrForm}, {api.Chain{Degree: 64}, api.ErrForm}, {part, api.ErrForm}, {low, api.ErrForm}, {high, api.ErrForm}, {other, api.ErrForm},
	}
}
