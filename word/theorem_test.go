package word

import (
	"math/rand"
	"slices"
	"testing"

	"cayley/api"
)

// triples calls f with triples of words in three generators: all of short ones, and some longer ones.
func triples(f func(a, b, c api.Word)) {
	short := every(2, 1, -1, 2, -2)
	for _, a := range short {
		for _, b := range short {
			for _, c := range short {
				f(a, b, c)
			}
		}
	}
	l := mixed(6, 900, 40, 1, -1, 2, -2, 3, -3)
	for i := 0; i+2 < len(l); i += 3 {
		f(l[i], l[i+1], l[i+2])
	}
}

// TestGroup tests P2.4: reduced words are a group with Mul and Invert.
func TestGroup(t *testing.T) {
	triples(func(a, b, c api.Word) {
		same(t, "a*(b*c)", Mul(a, Mul(b, c)), Mul(Mul(a, b), c))
		same(t, "a*1", Mul(a, nil), Reduce(a))
		same(t, "1*a", Mul(nil, a), Reduce(a))
		same(t, "a*a^-1", Mul(a, Invert(a)), nil)
		same(t, "a^-1*a", Mul(Invert(a), a), nil)
		same(t, "the inverse of the inverse", Invert(Invert(a)), Reduce(a))
		same(t, "b*a^b", Mul(b, Conj(a, b)), Mul(a, b))
		same(t, "b*a*[a, b]", Mul(Mul(b, a), Comm(a, b)), Mul(a, b))
	})
}

// TestPowersAdd tests P2.4: powers add up.
func TestPowersAdd(t *testing.T) {
	for _, a := range slices.Concat(every(4, 1, -1, 2, -2), mixed(13, 200, 40, 1, -1, 2, -2, 3, -3)) {
		for m := -4; m <= 4; m++ {
			x := pow(t, a, m)
			for n := -4; n <= 4; n++ {
				power(t, a, m+n, Mul(x, pow(t, a, n)))
				power(t, x, n, pow(t, a, m*n))
			}
		}
	}
}

// pow is a power that has no error.
func pow(t *testing.T, w api.Word, n int) api.Word {
	t.Helper()
	v, e := Pow(w, n)
	if e != api.OK {
		t.Fatalf("Pow(%v, %d): error %d", w, n, int(e))
	}
	return v
}

// TestUnique tests P2.4: in whatever order pairs are removed, the reduced form is the same, and has none.
func TestUnique(t *testing.T) {
	r := rand.New(rand.NewSource(7))
	last := func(n int) int { return n - 1 }
	for _, w := range append(samples(), mixed(8, 200, 100, 1, -1, 2, -2)...) {
		got := Reduce(w)
		same(t, "in any order", removed(w, r.Intn), got)
		same(t, "from the right", removed(w, last), got)
		same(t, "of the reduced form", Reduce(got), got)
		if len(pairs(got)) > 0 {
			t.Fatalf("Reduce(%v) = %v", w, got)
		}
	}
}

// TestConjugates tests P2.5: the cyclically reduced form of a conjugate is a rotation of that of the word.
func TestConjugates(t *testing.T) {
	triples(func(a, b, _ api.Word) {
		v, w := Cyclic(a), Cyclic(Conj(a, b))
		for k := range max(1, len(v)) {
			if slices.Equal(slices.Concat(v[k:], v[:k]), w) {
				return
			}
		}
		t.Fatalf("Cyclic of %v is %v, of its conjugate by %v it is %v", a, v, b, w)
	})
}

// TestSumsAdd tests P2.5: the sums of a product are the sums added up.
func TestSumsAdd(t *testing.T) {
	sums := func(w api.Word) []int {
		l, e := Sums(w, 3)
		if e != api.OK {
			t.Fatalf("Sums(%v): error %d", w, int(e))
		}
		return l
	}
	triples(func(a, b, _ api.Word) {
		x, y, both := sums(a), sums(b), sums(slices.Concat(a, b))
		for i := range x {
			x[i] += y[i]
		}
		if !slices.Equal(x, both) || !slices.Equal(x, sums(Mul(a, b))) {
			t.Fatalf("the sums of %v and %v do not add up", a, b)
		}
	})
}

// TestHomomorphism tests P2.6: Subst is a homomorphism, also one of words that are not reduced.
func TestHomomorphism(t *testing.T) {
	subst := func(w api.Word, images []api.Word) api.Word {
		v, e := Subst(w, images)
		if e != api.OK {
			t.Fatalf("Subst(%v, %v): error %d", w, images, int(e))
		}
		return v
	}
	letters := []api.Word{of(1), of(2), of(3)}
	triples(func(a, b, c api.Word) {
		images := []api.Word{a, b, Mul(c, a)}
		for _, v := range []api.Word{a, Invert(b), c} {
			same(t, "Subst of a product", subst(Mul(v, c), images), Mul(subst(v, images), subst(c, images)))
			same(t, "Subst of words in a row", subst(slices.Concat(v, c), images), Mul(subst(v, images), subst(c, images)))
			same(t, "Subst of an inverse", subst(Invert(v), images), Invert(subst(v, images)))
			same(t, "Subst by letters", subst(v, letters), Reduce(v))
		}
	})
}

// TestTextParse tests P2.6: Parse reads from Text the same word, also one that is not reduced.
func TestTextParse(t *testing.T) {
	all := make([]int, 0, 32)
	for i := 1; i <= 16; i++ {
		all = append(all, i, -i)
	}
	long := []api.Word{times(of(1), 4000), times(of(-16), 4000), times(of(-1, -2), 2000), times(of(1, -1), 2000)}
	for _, w := range slices.Concat(every(5, 1, -1, 2, -2), mixed(9, 500, 60, 1, 1, 1, -1, 2, -2), mixed(10, 500, 60, all...), mixed(11, 5, 4000, all...), long) {
		s, e := Text(w)
		if e != api.OK {
			t.Fatalf("Text(%v): error %d", w, int(e))
		}
		if got, f := Parse(s, 16); f != (api.Fault{}) || !slices.Equal(got, w) {
			t.Fatalf("Parse(%q) = %v, %v, want %v", s, got, f, w)
		}
	}
}
