package factor

import (
	"math/rand"
	"slices"
	"testing"

	"cayley/api"
	"cayley/perm"
	"cayley/word"
)

// parse reads permutations of degree n.
func parse(n int, texts ...string) []api.Perm {
	var l []api.Perm
	for _, s := range texts {
		a, f := perm.Parse(s, n)
		if f != (api.Fault{}) {
			panic(s)
		}
		l = append(l, a)
	}
	return l
}

// three and five are the groups s and c of the chapter's examples.
func three() api.Group { return api.Group{Degree: 3, Gens: parse(3, "(0 1)", "(1 2)")} }

func five() api.Group { return api.Group{Degree: 5, Gens: parse(5, "(0 1 2 3 4)")} }

// unit returns the identity of degree n.
func unit(n int) api.Perm {
	a := make(api.Perm, n)
	for i := range a {
		a[i] = i
	}
	return a
}

// mul returns the product of permutations of one degree.
func mul(a api.Perm, l ...api.Perm) api.Perm {
	a = slices.Clone(a)
	for _, b := range l {
		for i, p := range a {
			a[i] = b[p]
		}
	}
	return a
}

// inverse returns the inverse of a permutation.
func inverse(a api.Perm) api.Perm {
	b := make(api.Perm, len(a))
	for i, p := range a {
		b[p] = i
	}
	return b
}

// cycle returns the permutation of degree n that maps each of length points from first on to the next one, and the last to the first.
func cycle(n, first, length int) api.Perm {
	a := unit(n)
	for i := range length {
		a[first+i] = first + (i+1)%length
	}
	return a
}

// group returns a group by its generators.
func group(n int, gens ...api.Perm) api.Group { return api.Group{Degree: n, Gens: gens} }

// all returns the group of degree n of all permutations of length points from first on.
func all(n, first, length int) api.Group {
	return group(n, cycle(n, first, length), cycle(n, first, min(length, 2)))
}

// neighbours returns the same group by the exchanges of neighbours.
func neighbours(n, first, length int) api.Group {
	g := group(n)
	for i := range length - 1 {
		g.Gens = append(g.Gens, cycle(n, first+i, 2))
	}
	return g
}

// rings returns the group of degree n in which rings of the given lengths turn, one behind the other, from the point first on.
func rings(n, first int, lengths ...int) api.Group {
	g := group(n)
	for _, length := range lengths {
		g.Gens = append(g.Gens, cycle(n, first, length))
		first += length
	}
	return g
}

// together returns the group whose one generator is the product of all generators of a group.
func together(g api.Group) api.Group {
	return group(g.Degree, mul(unit(g.Degree), g.Gens...))
}

// name returns a permutation as a key for maps.
func name(a api.Perm) (k [64]byte) {
	for i, p := range a {
		k[i] = byte(p)
	}
	return k
}

// spheres returns the elements of a group, by their lengths, ascending within a length: those of a length are the neighbours of those of the length before that were not there yet.
func spheres(g api.Group) [][]api.Perm {
	l := [][]api.Perm{{unit(g.Degree)}}
	found := map[[64]byte]bool{name(unit(g.Degree)): true}
	for {
		var next []api.Perm
		for _, x := range l[len(l)-1] {
			for _, s := range g.Gens {
				for _, y := range []api.Perm{mul(x, inverse(s)), mul(x, s)} {
					if !found[name(y)] {
						found[name(y)] = true
						next = append(next, y)
					}
				}
			}
		}
		if len(next) == 0 {
			return l
		}
		slices.SortFunc(next, before)
		l = append(l, next)
	}
}

// before compares permutations lexicographically.
func before(a, b api.Perm) int { return slices.Compare(a, b) }

// listed returns all elements of a group, ascending.
func listed(g api.Group) []api.Perm {
	l := slices.Concat(spheres(g)...)
	slices.SortFunc(l, before)
	return l
}

// valueOf returns the value of a valid word: each point is led through its letters.
func valueOf(g api.Group, w api.Word) api.Perm {
	n := len(g.Gens)
	values := make([]api.Perm, 2*n+1)
	for s, a := range g.Gens {
		values[n+s+1], values[n-s-1] = a, inverse(a)
	}
	x := unit(g.Degree)
	for i, p := range x {
		for _, letter := range w {
			p = values[n+letter][p]
		}
		x[i] = p
	}
	return x
}

// ran returns the value of a valid program.
func ran(g api.Group, l []api.Step) api.Perm {
	list := append(slices.Clone(g.Gens), make([]api.Perm, len(l))...)
	x := unit(g.Degree)
	for i, s := range l {
		if s.Op == api.StepMul {
			x = mul(list[s.A], list[s.B])
		} else {
			x = inverse(list[s.A])
		}
		list[len(g.Gens)+i] = x
	}
	return x
}

// firstWords returns the least words of all elements by their names: it tries all words, in their order.
func firstWords(g api.Group) map[[64]byte]api.Word {
	first := map[[64]byte]api.Word{}
	size := len(listed(g))
	words := []api.Word{nil}
	for i := 0; len(first) < size; i++ {
		w := words[i]
		if k := name(valueOf(g, w)); first[k] == nil {
			first[k] = append(api.Word{}, w...)
		}
		for s := range len(g.Gens) {
			for _, letter := range []int{s + 1, -s - 1} {
				words = append(words, append(slices.Clone(w), letter))
			}
		}
	}
	return first
}

// leastWords returns the least words of all elements by their names, made from the left: of the letters that leave a shorter element behind them, the first one, and then the least word of this element.
func leastWords(g api.Group) map[[64]byte]api.Word {
	l := map[[64]byte]api.Word{name(unit(g.Degree)): nil}
	for length, sphere := range spheres(g)[1:] {
		for _, x := range sphere {
			l[name(x)] = fromLeft(g, l, length, x)
		}
	}
	return l
}

// fromLeft returns a letter and a least word of a length whose value is x.
func fromLeft(g api.Group, least map[[64]byte]api.Word, length int, x api.Perm) api.Word {
	for s, y := range g.Gens {
		for i, rest := range []api.Perm{mul(inverse(y), x), mul(y, x)} {
			if w, is := least[name(rest)]; is && len(w) == length {
				return append(api.Word{[]int{s + 1, -s - 1}[i]}, w...)
			}
		}
	}
	panic("no letter leaves a shorter element")
}

// tiny returns groups with few enough words to try all of them.
func tiny() []api.Group {
	l := []api.Group{
		three(), five(), group(1), group(4), group(3, unit(3)), group(64), group(1, unit(1), unit(1)),
		all(2, 0, 2), all(3, 0, 3), all(4, 0, 4), all(6, 1, 4), neighbours(4, 0, 4), rings(5, 0, 2, 3), rings(9, 1, 6), rings(64, 51, 13), together(rings(5, 0, 2, 3)),
	}
	for _, texts := range [][]string{
		// The same generator twice, a generator and its inverse, one that others make superfluous, and one that moves nothing.
		{"(0 1 2)", "(0 1 2)"}, {"(0 1 2)", "(0 2 1)"}, {"(0 2 1)", "(0 1 2)", "(0 1)"}, {"(0 1 2 3 4 5)", "(0 3)(1 4)(2 5)", "(0 2 4)(1 3 5)"}, {"()", "(0 1 2 3)"}, {"(1 2)", "()", "(0 1)"},
		{"(0 1)(2 3)", "(0 2)(1 3)"}, {"(0 1)(2 3)", "(0 1)", "(2 3)"}, {"(0 1 2)", "(1 2 3)"}, {"(0 1 2 3)", "(0 2)"}, {"(0 1 2 3)(4 5 6 7)", "(0 4 2 6)(1 7 3 5)"}, {"(0 1 2 3 4)", "(1 4)(2 3)"}, {"(0 1 2 3 4)", "(1 2 4 3)"},
	} {
		l = append(l, group(8, parse(8, texts...)...))
	}
	return l
}

// medium returns groups of at most 5,040 elements.
func medium() []api.Group {
	l := []api.Group{
		all(5, 0, 5), all(6, 0, 6), all(7, 0, 7), all(16, 9, 6), all(64, 57, 7), neighbours(6, 0, 6), neighbours(7, 0, 7), neighbours(64, 3, 5),
		rings(16, 0, 3, 6, 7), rings(64, 0, 4, 11, 13, 7), together(rings(37, 0, 5, 7, 9, 16)), together(rings(64, 3, 11, 13, 17)), group(64, slices.Repeat(all(64, 1, 5).Gens, 8)...), neighbours(17, 4, 6),
		group(12, parse(12, "(0 1 2 3 4 5 6 7 8 9 10)", "(1 3 9 5 4)(2 6 7 10 8)")...), group(8, parse(8, "(0 1 2 3 4 5 6)", "(1 2)(3 6)")...), group(8, parse(8, "(0 1)", "(0 2)(1 3)", "(0 4)(1 5)(2 6)(3 7)")...),
		group(9, parse(9, "(0 1 2)", "(0 3 6)(1 4 7)(2 5 8)")...), group(8, parse(8, "(0 1)(2 3)(4 5)(6 7)", "(0 2)(1 3)(4 6)(5 7)", "(0 4)(1 5)(2 6)(3 7)", "(1 2 4 3 6 7 5)")...),
	}
	r := rand.New(rand.NewSource(10))
	for i := range 40 {
		n := 4 + i%4
		g := group(n)
		for range 1 + r.Intn(3) {
			// Such permutations generate groups of all kinds, not just those of all permutations.
			a := api.Perm(r.Perm(n))
			g.Gens = append(g.Gens, mul(a, a, a, a))
		}
		l = append(l, g)
	}
	return l
}

// must returns a function that returns the result of a call without an error.
func must[T any](t *testing.T) func(x T, e api.Errno) T {
	t.Helper()
	return func(x T, e api.Errno) T {
		t.Helper()
		if e != api.OK {
			t.Fatalf("error %d", int(e))
		}
		return x
	}
}

func sameWords(a, b []api.Word) bool {
	return slices.EqualFunc(a, b, func(v, w api.Word) bool { return word.Cmp(v, w) == 0 })
}
