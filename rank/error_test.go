package rank

import (
	"slices"
	"testing"

	"cayley/api"
)

// expectNothing reports a result of a call that should have an error.
func expectNothing(t *testing.T, name string, e, wanted api.Errno, zero bool) {
	t.Helper()
	if e != wanted || !zero {
		t.Fatalf("%s: error %d, want %d; other results are zero: %t", name, int(e), int(wanted), zero)
	}
}

// expectChainError tests that all functions return the error of their first chain, whatever else they are given.
func expectChainError(t *testing.T, c api.Chain, wanted api.Errno) {
	t.Helper()
	n, e := Size(c)
	expectNothing(t, "Size", e, wanted, n == 0)
	l, e := List(c)
	expectNothing(t, "List", e, wanted, len(l) == 0)
	for _, k := range []int{-1, 0, 100} {
		x, e := Unrank(c, k)
		expectNothing(t, "Unrank", e, wanted, len(x) == 0)
	}
	for _, x := range append(badPerms(4), badPerm{identity(4), api.OK}) {
		n, e := Rank(c, x.x)
		expectNothing(t, "Rank", e, wanted, n == 0)
		y, e := Least(c, x.x)
		expectNothing(t, "Least", e, wanted, len(y) == 0)
	}
	expectPairError(t, c, made(4), wanted)
	expectPairError(t, c, made(64), wanted)
	for _, d := range badChains() {
		expectPairError(t, c, d.c, wanted)
	}
}

// expectPairError tests that Index and Cosets return an error of two chains.
func expectPairError(t *testing.T, c, d api.Chain, wanted api.Errno) {
	t.Helper()
	n, e := Index(c, d)
	expectNothing(t, "Index", e, wanted, n == "")
	l, e := Cosets(c, d)
	expectNothing(t, "Cosets", e, wanted, len(l) == 0)
}

// TestChainErrors tests P9.1 to P9.4: the error of chain.Check comes first, that of the first chain before that of the second one.
func TestChainErrors(t *testing.T) {
	for _, x := range badChains() {
		expectChainError(t, x.c, x.e)
		for _, c := range []api.Chain{made(1), made(4), made(4, all(4, 0, 4)...), made(64, all(64, 0, 64)...)} {
			expectPairError(t, c, x.c, x.e)
		}
	}
}

// TestPermErrors tests P9.1 and P9.3: the errors of permutations, which come before those of numbers and elements.
func TestPermErrors(t *testing.T) {
	for _, n := range []int{1, 2, 4, 63, 64} {
		for _, c := range []api.Chain{made(n), made(n, cycle(n, 0, n)), made(n, all(n, 0, n)...)} {
			for _, x := range badPerms(n) {
				k, e := Rank(c, x.x)
				expectNothing(t, "Rank", e, x.e, k == 0)
				y, e := Least(c, x.x)
				expectNothing(t, "Least", e, x.e, len(y) == 0)
			}
		}
	}
}

// TestPairErrors tests P9.4: chains of different degrees have the error ErrType, before any other of Index and Cosets.
func TestPairErrors(t *testing.T) {
	for _, n := range []int{1, 2, 4, 8, 63, 64} {
		for _, k := range []int{1, 2, 3, 5, 63, 64} {
			if n == k {
				continue
			}
			for _, c := range []api.Chain{made(n), made(n, all(n, 0, n)...)} {
				for _, d := range []api.Chain{made(k), made(k, all(k, 0, k)...)} {
					expectPairError(t, c, d, api.ErrType)
				}
			}
		}
	}
}

// pieces returns all lists of numbers of chains.
func pieces(l ...api.Chain) [][]int {
	var p [][]int
	for _, c := range l {
		p = append(p, c.Orbits...)
		for _, reps := range c.Reps {
			p = append(p, lists(reps)...)
		}
	}
	return p
}

// lists returns permutations as lists.
func lists(l []api.Perm) [][]int {
	var p [][]int
	for _, x := range l {
		p = append(p, x)
	}
	return p
}

func sameLists(a, b [][]int) bool { return slices.EqualFunc(a, b, slices.Equal[[]int]) }

// kept returns lists that share no memory with l.
func kept(l [][]int) [][]int {
	var c [][]int
	for _, x := range l {
		c = append(c, slices.Clone(x))
	}
	return c
}

// TestMemory tests R4 and P2: arguments stay as they were; what is written into a result changes neither them, nor another list of the result, nor a later result of the same call, which is the same.
func TestMemory(t *testing.T) {
	for _, g := range [][]api.Perm{nil, all(5, 0, 5), all(5, 1, 3), rings(5, 0, 2, 3), even(5, 0, 5)} {
		for _, x := range []api.Perm{identity(5), cycle(5, 0, 5), cycle(5, 2, 2)} {
			d, c := made(5, append(slices.Clone(g), x)...), made(5, g...)
			arguments := append(pieces(c, d), x)
			old := kept(arguments)
			for name, f := range map[string]func() [][]int{
				"Size":   func() [][]int { n, e := Size(c); return [][]int{{n, int(e)}} },
				"Rank":   func() [][]int { n, e := Rank(c, x); return [][]int{{n, int(e)}} },
				"Unrank": func() [][]int { y, e := Unrank(c, 0); return [][]int{y, {int(e)}} },
				"List":   func() [][]int { l, e := List(c); return append(lists(l), []int{int(e)}) },
				"Least":  func() [][]int { y, e := Least(c, x); return [][]int{y, {int(e)}} },
				"Index":  func() [][]int { n, e := Index(c, d); return [][]int{{len(n), int(e)}} },
				"Cosets": func() [][]int { l, e := Cosets(c, d); return append(lists(l), []int{int(e)}) },
				"itself": func() [][]int { l, e := Cosets(c, c); return append(lists(l), []int{int(e)}) },
			} {
				first := f()
				wanted := kept(first)
				for i, l := range first {
					l = l[:cap(l)]
					for k := range l {
						l[k] = -7
					}
					if !sameLists(first[i+1:], wanted[i+1:]) {
						t.Fatalf("%s: a list of the result shares memory with others", name)
					}
				}
				if !sameLists(arguments, old) {
					t.Fatalf("%s changes its arguments, or shares memory with them", name)
				}
				if again := f(); !sameLists(again, wanted) {
					t.Fatalf("%s = %v, before %v", name, again, wanted)
				}
			}
		}
	}
}
