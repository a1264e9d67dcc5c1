package factor

import (
	"slices"
	"testing"

	"cayley/api"
	"cayley/chain"
	"cayley/rank"
	"cayley/word"
)

// TestWordsExamples tests P10.2 by the chapter's examples.
func TestWordsExamples(t *testing.T) {
	if l := must[[]api.Word](t)(Words(three())); !sameWords(l, []api.Word{nil, {2}, {1}, {2, 1}, {1, 2}, {1, 2, 1}}) {
		t.Errorf("Words = %v", l)
	}
	if w := must[api.Word](t)(Least(three(), api.Perm{2, 1, 0})); !slices.Equal(w, api.Word{1, 2, 1}) {
		t.Errorf("Least = %v", w)
	}
	if w := must[api.Word](t)(Least(five(), parse(5, "(0 3 1 4 2)")[0])); !slices.Equal(w, api.Word{-1, -1}) {
		t.Errorf("Least = %v", w)
	}
	for _, x := range []struct {
		g    api.Group
		want []int
	}{{three(), []int{1, 2, 2, 1}}, {five(), []int{1, 2, 2}}} {
		if l := must[[]int](t)(Growth(x.g)); !slices.Equal(l, x.want) {
			t.Errorf("Growth = %v, want %v", l, x.want)
		}
	}
}

// expectWords tests the results of Words and Growth for a group with least words that are known by the names of the elements, and those of Least for some elements.
func expectWords(t *testing.T, g api.Group, least map[[64]byte]api.Word) {
	t.Helper()
	elements := listed(g)
	l := must[[]api.Word](t)(Words(g))
	if len(l) != len(elements) {
		t.Fatalf("%v: %d words of %d elements", g, len(l), len(elements))
	}
	every := 1 + len(elements)/40
	for i, x := range elements {
		w := least[name(x)]
		if word.Cmp(l[i], w) != 0 {
			t.Fatalf("%v: the word of %v is %v, want %v", g, x, l[i], w)
		}
		if i%every != 0 {
			continue
		}
		if v := must[api.Word](t)(Least(g, x)); word.Cmp(v, w) != 0 {
			t.Fatalf("%v: the least word of %v is %v, want %v", g, x, v, w)
		}
	}
	var counts []int
	for _, sphere := range spheres(g) {
		counts = append(counts, len(sphere))
	}
	if n := must[[]int](t)(Growth(g)); !slices.Equal(n, counts) {
		t.Fatalf("Growth(%v) = %v, want %v", g, n, counts)
	}
}

// TestAllWords tests P10.2 with groups for which all words are tried, in their order.
func TestAllWords(t *testing.T) {
	t.Parallel()
	for _, g := range tiny() {
		expectWords(t, g, firstWords(g))
	}
}

// TestWords tests P10.2 with groups up to the greatest ones.
func TestWords(t *testing.T) {
	t.Parallel()
	for _, g := range medium() {
		expectWords(t, g, leastWords(g))
	}
}

// TestOrderOfWords tests P10.2: words stand in the order of rank.List.
func TestOrderOfWords(t *testing.T) {
	t.Parallel()
	for _, g := range slices.Concat(tiny(), medium()) {
		l := must[[]api.Perm](t)(rank.List(must[api.Chain](t)(chain.Of(g))))
		for i, w := range must[[]api.Word](t)(Words(g)) {
			if !slices.Equal(valueOf(g, w), l[i]) {
				t.Fatalf("%v: the word %v stands at %d", g, w, i)
			}
		}
	}
}

// product returns the coefficients of the product of the polynomials 1 + q + .. + q^(k-1) for lengths k.
func product(lengths ...int) []int {
	p := []int{1}
	for _, k := range lengths {
		next := make([]int, len(p)+k-1)
		for i, c := range p {
			for j := range k {
				next[i+j] += c
			}
		}
		p = next
	}
	return p
}

// TestGrowthFormulas tests P10.2 with groups whose growth is known: groups of reflections with their simple reflections, and rings.
func TestGrowthFormulas(t *testing.T) {
	t.Parallel()
	for _, x := range []struct {
		name string
		g    api.Group
		want []int
	}{
		{"all of 7 points", neighbours(7, 0, 7), product(1, 2, 3, 4, 5, 6, 7)},
		{"all of 6 points, far behind", neighbours(64, 58, 6), product(1, 2, 3, 4, 5, 6)},
		{"signed permutations of 5 points", group(10, parse(10, "(0 1)", "(0 2)(1 3)", "(2 4)(3 5)", "(4 6)(5 7)", "(6 8)(7 9)")...), product(2, 4, 6, 8, 10)},
		{"even signs of 5 points", group(10, parse(10, "(0 3)(1 2)", "(0 2)(1 3)", "(2 4)(3 5)", "(4 6)(5 7)", "(6 8)(7 9)")...), product(2, 4, 6, 8, 5)},
		{"a polygon of 64 corners", group(64, mirrors(64)...), product(2, 64)},
		{"16 exchanges, of which 12 count", rings(64, 8, append(slices.Repeat([]int{2}, 12), 1, 1, 1, 1)...), product(slices.Repeat([]int{2}, 12)...)},
		{"a ring of 64", rings(64, 0, 64), append(append([]int{1}, slices.Repeat([]int{2}, 31)...), 1)},
		{"a ring of 63", rings(64, 1, 63), append([]int{1}, slices.Repeat([]int{2}, 31)...)},
		{"5,040 powers", together(rings(37, 0, 5, 7, 9, 16)), append(append([]int{1}, slices.Repeat([]int{2}, 2519)...), 1)},
		{"no generators", group(64), []int{1}},
		{"16 that move nothing", group(5, slices.Repeat([]api.Perm{unit(5)}, 16)...), []int{1}},
	} {
		if l := must[[]int](t)(Growth(x.g)); !slices.Equal(l, x.want) {
			t.Errorf("%s: growth %v, want %v", x.name, l, x.want)
		}
	}
}

// mirrors returns two mirror images of a polygon that fix neighbouring axes.
func mirrors(n int) []api.Perm {
	a, b := unit(n), unit(n)
	for i := range n {
		a[i], b[i] = (n-i)%n, n-1-i
	}
	return []api.Perm{a, b}
}

// bounds are groups with the greatest numbers of elements for which there are words, and with the least ones for which there are none: no group of degree 64 has from 5,041 to 5,045 elements.
func bounds() (last, over []api.Group) {
	last = []api.Group{all(7, 0, 7), all(64, 20, 7), neighbours(7, 0, 7), rings(64, 0, 20, 18, 14), together(rings(64, 0, 5, 7, 9, 16))}
	over = []api.Group{
		rings(64, 0, 29, 29, 3, 2), rings(64, 1, 3, 2, 29, 29), together(rings(64, 0, 3, 5, 7, 11, 13)), all(8, 0, 8), neighbours(8, 0, 8), all(64, 0, 64),
		neighbours(17, 0, 17), rings(64, 0, 8, 8, 8, 8, 8, 8, 8, 8),
	}
	return last, over
}

// TestBounds tests P10.2: ErrOver if there are more than 5,040 elements, for Least even if the permutation is no element.
func TestBounds(t *testing.T) {
	t.Parallel()
	last, over := bounds()
	for _, g := range last {
		if l := must[[]api.Word](t)(Words(g)); len(l) != api.MaxList {
			t.Errorf("%d words", len(l))
		}
		sum := 0
		for _, k := range must[[]int](t)(Growth(g)) {
			sum += k
		}
		if sum != api.MaxList {
			t.Errorf("Growth adds up to %d", sum)
		}
		if w := must[api.Word](t)(Least(g, g.Gens[0])); !slices.Equal(w, api.Word{1}) {
			t.Errorf("the least word of the first generator is %v", w)
		}
	}
	for _, g := range over {
		l, e := Words(g)
		expectNothing(t, "Words", e, api.ErrOver, len(l) == 0)
		n, e := Growth(g)
		expectNothing(t, "Growth", e, api.ErrOver, len(n) == 0)
		for _, x := range append(slices.Clone(g.Gens), unit(g.Degree), cycle(g.Degree, 0, g.Degree-1)) {
			w, e := Least(g, x)
			expectNothing(t, "Least", e, api.ErrOver, len(w) == 0)
		}
	}
}

// TestLeastOfNoElement tests P10.2: ErrNone for all permutations of some points that are no elements.
func TestLeastOfNoElement(t *testing.T) {
	t.Parallel()
	for _, g := range []api.Group{group(1), group(2), group(4), five(), rings(5, 0, 2, 3), all(5, 1, 4), all(5, 0, 5), group(5, parse(5, "(0 1 2)", "(1 2 3 4 0)")...)} {
		elements := listed(g)
		for _, x := range listed(all(g.Degree, 0, g.Degree)) {
			_, is := slices.BinarySearchFunc(elements, x, before)
			w, e := Least(g, x)
			if is {
				if e != api.OK || !slices.Equal(valueOf(g, w), x) {
					t.Fatalf("%v: Least(%v) = %v, error %d", g, x, w, int(e))
				}
				continue
			}
			expectNothing(t, "Least", e, api.ErrNone, len(w) == 0)
		}
	}
}
