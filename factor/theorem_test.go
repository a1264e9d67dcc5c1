package factor

import (
	"math/rand"
	"slices"
	"testing"

	"cayley/api"
	"cayley/word"
)

// TestLeastWords tests P10.4: the value of the least word of x is x, and no earlier word, down to the empty one, has the value x.
func TestLeastWords(t *testing.T) {
	t.Parallel()
	for _, g := range slices.Concat(tiny(), medium()) {
		elements := listed(g)
		l := must[[]api.Word](t)(Words(g))
		for i, x := range elements {
			if y := must[api.Perm](t)(Eval(g, l[i])); !slices.Equal(x, y) {
				t.Fatalf("%v: the word %v of %v has the value %v", g, l[i], x, y)
			}
		}
	}
	for _, g := range tiny() {
		l := must[[]api.Word](t)(Words(g))
		for i, x := range listed(g) {
			for v := range earlier(len(g.Gens), l[i]) {
				if slices.Equal(valueOf(g, v), x) {
					t.Fatalf("%v: %v is no least word: %v comes first", g, l[i], v)
				}
			}
		}
	}
}

// earlier enumerates the words before a valid word, from the last one of them on, up to 2,000 of them.
func earlier(gens int, w api.Word) func(yield func(api.Word) bool) {
	return func(yield func(api.Word) bool) {
		w := slices.Clone(w)
		for range 2000 {
			if len(w) == 0 {
				return
			}
			// Letters that can go back no further become the last ones.
			k := len(w) - 1
			for k >= 0 && w[k] == 1 {
				w[k] = -gens
				k--
			}
			switch {
			case k < 0:
				w = w[1:]
			case w[k] < 0:
				w[k] = -w[k]
			default:
				w[k] = 1 - w[k]
			}
			if !yield(w) {
				return
			}
		}
	}
}

// TestSegments tests P10.5: least words are reduced, and each part of a least word is a least word.
func TestSegments(t *testing.T) {
	t.Parallel()
	r := rand.New(rand.NewSource(107))
	for _, g := range slices.Concat(tiny(), medium()) {
		least := map[[64]byte]api.Word{}
		l := must[[]api.Word](t)(Words(g))
		for _, w := range l {
			least[name(valueOf(g, w))] = w
		}
		for _, w := range l {
			if len(word.Reduce(w)) != len(w) {
				t.Fatalf("%v: %v is not reduced", g, w)
			}
			if len(l) > 200 && r.Intn(len(l)) > 100 {
				continue
			}
			for range 20 {
				k := r.Intn(len(w) + 1)
				part := w[k : k+r.Intn(len(w)-k+1)]
				if v := least[name(valueOf(g, part))]; !slices.Equal(v, part) {
					t.Fatalf("%v: %v is a part of %v, but not the least word: that is %v", g, part, w, v)
				}
			}
		}
	}
}

// TestGrowth tests P10.6: the numbers of Growth add up to the number of elements; the first one is 1, and no other one is 0; they count the words by their letters.
func TestGrowth(t *testing.T) {
	t.Parallel()
	for _, g := range slices.Concat(tiny(), medium()) {
		l := must[[]int](t)(Growth(g))
		if l[0] != 1 || slices.Contains(l, 0) {
			t.Fatalf("Growth(%v) = %v", g, l)
		}
		counts := make([]int, len(l))
		for _, w := range must[[]api.Word](t)(Words(g)) {
			counts[len(w)]++
		}
		if !slices.Equal(l, counts) {
			t.Fatalf("Growth(%v) = %v, but there are %v words", g, l, counts)
		}
	}
}

// TestLettersAndPrograms tests P10.1: a word, and the program that multiplies its letters, have the same value.
func TestLettersAndPrograms(t *testing.T) {
	t.Parallel()
	r := rand.New(rand.NewSource(108))
	for _, g := range slices.Concat(tiny(), medium()) {
		n := len(g.Gens)
		for _, w := range words(r, n) {
			if len(w) == 0 || len(w) > 2000 {
				continue
			}
			// Behind the generators stand their inverses, and behind these the identity.
			var l []api.Step
			for s := range n {
				l = append(l, api.Step{Op: api.StepInv, A: s})
			}
			l = append(l, api.Step{Op: api.StepMul, A: 0, B: n})
			for i, letter := range w {
				s := letter - 1
				if letter < 0 {
					s = n - letter - 1
				}
				l = append(l, api.Step{Op: api.StepMul, A: 2*n + i, B: s})
			}
			x, y := must[api.Perm](t)(Eval(g, w)), must[api.Perm](t)(Run(g, l))
			if !slices.Equal(x, y) {
				t.Fatalf("%v: the word %v has the value %v, its program %v", g, w, x, y)
			}
		}
	}
}
