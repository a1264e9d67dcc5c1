package word

import (
	"math"
	"math/rand"
	"slices"
	"testing"

	"cayley/api"
)

// of makes a word of letters.
func of(letters ...int) api.Word { return letters }

// times is a word several times.
func times(w api.Word, n int) api.Word { return slices.Repeat(w, n) }

// same reports a word that is not the expected one.
func same(t *testing.T, name string, got, want api.Word) {
	t.Helper()
	if !slices.Equal(got, want) {
		t.Fatalf("%s = %v, want %v", name, got, want)
	}
}

// every returns all words of at most so many of these letters.
func every(length int, letters ...int) []api.Word {
	l := []api.Word{nil}
	for i := 0; i < len(l); i++ {
		if len(l[i]) < length {
			for _, x := range letters {
				l = append(l, append(slices.Clone(l[i]), x))
			}
		}
	}
	return l
}

// odd are letters that cancel or do not, those at the ends of int among them.
func odd() []int {
	return []int{1, -1, 2, -2, 0, math.MinInt, math.MinInt + 1, math.MaxInt, math.MaxInt - 1}
}

// mixed returns words of random lengths up to a greatest one, and of these letters; always the same ones.
func mixed(seed int64, count, length int, letters ...int) []api.Word {
	r := rand.New(rand.NewSource(seed))
	var l []api.Word
	for range count {
		w := make(api.Word, r.Intn(length+1))
		for i := range w {
			w[i] = letters[r.Intn(len(letters))]
		}
		l = append(l, w)
	}
	return l
}

// samples are all short words, and some longer ones.
func samples() []api.Word {
	return slices.Concat(every(4, 1, -1, 2, -2, 0), every(3, odd()...), mixed(1, 300, 12, 1, -1, 2, -2), mixed(2, 300, 20, odd()...))
}

// pair says from the definition whether a letter is followed by its inverse.
func pair(x, y int) bool {
	return x != 0 && y != 0 && x != math.MinInt && y != math.MinInt && x+y == 0
}

// pairs returns the indices at which a letter is followed by its inverse.
func pairs(w api.Word) []int {
	var l []int
	for i := 1; i < len(w); i++ {
		if pair(w[i-1], w[i]) {
			l = append(l, i-1)
		}
	}
	return l
}

// removed is the reference for Reduce: it removes pairs one by one, in the order that pick says, from the list of their indices.
func removed(w api.Word, pick func(n int) int) api.Word {
	w = slices.Clone(w)
	for l := pairs(w); len(l) > 0; l = pairs(w) {
		i := l[pick(len(l))]
		w = slices.Delete(w, i, i+2)
	}
	return w
}

func first(int) int { return 0 }

// turned is the inverse word, not reduced, from its definition.
func turned(w api.Word) api.Word {
	v := slices.Clone(w)
	slices.Reverse(v)
	for i, x := range v {
		if x != math.MinInt {
			v[i] = 0 - x
		}
	}
	return v
}

// TestCheck tests P2.1: Check, and which error comes first.
func TestCheck(t *testing.T) {
	for _, x := range []struct {
		name string
		w    api.Word
		gens int
		e    api.Errno
	}{
		{"no generator", nil, 0, api.ErrRange}, {"one generator", nil, 1, api.OK}, {"16 generators", nil, 16, api.OK}, {"17 generators", nil, 17, api.ErrRange},
		{"-1 generators", of(1), -1, api.ErrRange}, {"the least number", of(1), math.MinInt, api.ErrRange}, {"the greatest number", of(1), math.MaxInt, api.ErrRange},
		{"no letter", of(), 3, api.OK}, {"all letters", of(1, -1, 2, -2, 3, -3), 3, api.OK}, {"letter 16", of(16, -16), 16, api.OK}, {"not reduced", of(1, -1, 1, -1), 1, api.OK},
		{"letter 0", of(1, 0), 3, api.ErrRange}, {"letter 4", of(4), 3, api.ErrRange}, {"letter -4", of(1, 2, -4), 3, api.ErrRange}, {"letter 2 of 1", of(2), 1, api.ErrRange}, {"letter 17", of(17), 16, api.ErrRange}, {"letter -17", of(-17), 16, api.ErrRange},
		{"the least letter", of(math.MinInt), 16, api.ErrRange}, {"the next one", of(math.MinInt + 1), 16, api.ErrRange}, {"the greatest letter", of(math.MaxInt), 16, api.ErrRange}, {"a letter of 2^32+1", of(1<<32 + 1), 16, api.ErrRange},
		{"4,000 letters", times(of(1), 4000), 1, api.OK}, {"4,001 letters", times(of(1), 4001), 1, api.ErrLong}, {"4,000 letters with 2", append(times(of(1), 3999), 2), 1, api.ErrRange},
		{"4,001 zeros", times(of(0), 4001), 1, api.ErrLong}, {"4,001 letters, no generator", times(of(1), 4001), 0, api.ErrRange}, {"4,001 letters, 17 generators", times(of(1), 4001), 17, api.ErrRange},
	} {
		if e := Check(x.w, x.gens); e != x.e {
			t.Errorf("%s: error %d, want %d", x.name, int(e), int(x.e))
		}
	}
}

// TestExamples tests P2.1 and P2.2 with the chapter's examples.
func TestExamples(t *testing.T) {
	same(t, "Reduce", Reduce(of(1, 2, -2, -1, 3)), of(3))
	same(t, "Invert", Invert(of(1, 2, -3)), of(3, -2, -1))
	same(t, "Mul", Mul(of(1, 2), of(-2, 1)), of(1, 1))
	same(t, "Cyclic(1 2 3 -1)", Cyclic(of(1, 2, 3, -1)), of(2, 3))
	same(t, "Cyclic(1 -1)", Cyclic(of(1, -1)), nil)
	same(t, "Conj", Conj(of(1), of(2)), of(-2, 1, 2))
	same(t, "Comm", Comm(of(1), of(2)), of(-1, -2, 1, 2))
	power(t, of(1, 2), -2, of(-2, -1, -2, -1))
	power(t, of(1, 2, -1), 3, of(1, 2, 2, 2, -1))
	if a, b, c := Cmp(of(2), of(1, 1)), Cmp(of(-1), of(2)), Cmp(of(1, -1), of(1, 1)); a != -1 || b != -1 || c != 1 {
		t.Errorf("Cmp: %d, %d, %d", a, b, c)
	}
}

// TestReduce tests P2.1: Reduce, against the removal of pairs one by one.
func TestReduce(t *testing.T) {
	for _, w := range append(every(7, 1, -1, 2, -2), samples()...) {
		same(t, "Reduce", Reduce(w), removed(w, first))
	}
	for _, x := range odd() {
		got, want := Reduce(of(x, -x)), of()
		if !pair(x, -x) {
			want = of(x, -x)
		}
		same(t, "Reduce of a letter and its negation", got, want)
	}
	same(t, "Reduce of the least letters", Reduce(of(math.MinInt, math.MinInt)), of(math.MinInt, math.MinInt))
	same(t, "Reduce of zeros", Reduce(of(0, 0)), of(0, 0))
	same(t, "Reduce of nothing", Reduce(nil), nil)
}

// TestReduceLong tests P2.1: no length is too great for Reduce, Invert, Mul, Conj, Comm and Cyclic.
func TestReduceLong(t *testing.T) {
	const n = 100000
	a, b := times(of(1, 2), n), times(of(-2, -1), n)
	same(t, "Reduce", Reduce(slices.Concat(a, b)), nil)
	same(t, "Reduce", Reduce(slices.Concat(b, of(3), a)), slices.Concat(b, of(3), a))
	same(t, "Invert", Invert(a), b)
	same(t, "Mul", Mul(a, a), times(of(1, 2), 2*n))
	same(t, "Conj", Conj(of(3), a), slices.Concat(b, of(3), a))
	same(t, "Comm", Comm(a, of(3)), slices.Concat(b, of(-3), a, of(3)))
	same(t, "Cyclic", Cyclic(slices.Concat(b, of(3), a)), of(3))
}

// TestProducts tests P2.1: Invert, Mul, Conj and Comm, from their definitions.
func TestProducts(t *testing.T) {
	others := []api.Word{nil, of(1), of(-2), of(2, -1), of(1, 2, -2), of(0), of(math.MinInt, 1), of(2, 0, -1), of(-1, -1, math.MaxInt)}
	for _, a := range samples() {
		same(t, "Invert", Invert(a), removed(turned(a), first))
		for _, b := range others {
			same(t, "Mul", Mul(a, b), removed(slices.Concat(a, b), first))
			same(t, "Mul", Mul(b, a), removed(slices.Concat(b, a), first))
			same(t, "Conj", Conj(a, b), removed(slices.Concat(turned(b), a, b), first))
			same(t, "Comm", Comm(a, b), removed(slices.Concat(turned(a), turned(b), a, b), first))
		}
	}
	same(t, "Invert of the least letter", Invert(of(math.MinInt)), of(math.MinInt))
	same(t, "Invert of zeros", Invert(of(0, 1, 0)), of(0, -1, 0))
}

// TestCyclic tests P2.1: Cyclic, from its definition.
func TestCyclic(t *testing.T) {
	for _, w := range append(every(7, 1, -1, 2, -2), samples()...) {
		want := removed(w, first)
		for len(want) > 1 && pair(want[0], want[len(want)-1]) {
			want = want[1 : len(want)-1]
		}
		same(t, "Cyclic", Cyclic(w), want)
	}
	for _, x := range odd() {
		same(t, "Cyclic of a letter", Cyclic(of(x)), of(x))
	}
	same(t, "Cyclic of 0 1 0", Cyclic(of(0, 1, 0)), of(0, 1, 0))
	same(t, "Cyclic of the least letters", Cyclic(of(math.MinInt, 1, math.MinInt)), of(math.MinInt, 1, math.MinInt))
}

// power reports a power that is not the expected one.
func power(t *testing.T, w api.Word, n int, want api.Word) {
	t.Helper()
	got, e := Pow(w, n)
	if e != api.OK || !slices.Equal(got, want) {
		t.Fatalf("Pow(%v, %d) = %v, error %d, want %v", w, n, got, int(e), want)
	}
}

// long reports a power that is not too long.
func long(t *testing.T, name string, w api.Word, n int) {
	t.Helper()
	if got, e := Pow(w, n); e != api.ErrLong || got != nil {
		t.Errorf("%s: the power %d has %d letters, error %d", name, n, len(got), int(e))
	}
}

// TestPow tests P2.1: Pow, against products.
func TestPow(t *testing.T) {
	for _, w := range samples() {
		var up, down api.Word
		for n := range 6 {
			power(t, w, n, removed(up, first))
			power(t, w, -n, removed(down, first))
			up, down = slices.Concat(up, w), slices.Concat(down, turned(w))
		}
	}
}

// TestPowEnds tests P2.1: Pow with both ends of int.
func TestPowEnds(t *testing.T) {
	for _, n := range []int{math.MaxInt, math.MaxInt - 1, math.MinInt, math.MinInt + 1, 1 << 32, -(1 << 32), 1 << 62, 1<<63 - 4000} {
		power(t, nil, n, nil)
		power(t, of(1, -1), n, nil)
		power(t, times(of(1, 2, -2, -1), 2000), n, nil)
		long(t, "a", of(1), n)
		long(t, "a^b", of(-2, 1, 2), n)
		long(t, "0", of(0), n)
		long(t, "the least letter", of(math.MinInt), n)
		long(t, "4,000 letters", times(of(1), 4000), n)
	}
}

// TestPowLong tests P2.1: the powers of 4,000 letters and of more.
func TestPowLong(t *testing.T) {
	power(t, of(1), 4000, times(of(1), 4000))
	power(t, of(1), -4000, times(of(-1), 4000))
	long(t, "a", of(1), 4001)
	long(t, "a", of(1), -4001)
	power(t, of(1, 2), 2000, times(of(1, 2), 2000))
	long(t, "a*b", of(1, 2), 2001)
	long(t, "a*b", of(1, 2), -2001)
	power(t, of(-2, 1, 2), 3998, slices.Concat(of(-2), times(of(1), 3998), of(2)))
	power(t, of(-2, 1, 2), -3998, slices.Concat(of(-2), times(of(-1), 3998), of(2)))
	long(t, "a^b", of(-2, 1, 2), 3999)
	long(t, "a^b", of(-2, 1, 2), -3999)
	ends := slices.Concat(times(of(-2), 1999), of(1, 1), times(of(2), 1999))
	power(t, ends, 1, ends)
	long(t, "4,000 letters", ends, 2)
	ends = slices.Concat(times(of(-2), 2000), of(1), times(of(2), 2000))
	power(t, ends, 0, nil)
	for _, n := range []int{1, -1, 2, 4000, math.MaxInt, math.MinInt} {
		long(t, "4,001 letters", ends, n)
		long(t, "20,001 letters", slices.Concat(times(of(-2), 10000), of(1), times(of(2), 10000)), n)
	}
	for _, k := range []int{2001, 2002, 3000, 3999, 4000, 4001} {
		long(t, "long ends", slices.Concat(times(of(-2), k), of(1), times(of(2), k)), 1)
		long(t, "long ends", slices.Concat(times(of(-2), k), of(1, 1), times(of(2), k)), -2)
	}
	power(t, times(of(1), 4001), 0, nil)
	long(t, "4,001 letters", times(of(1), 4001), 1)
	power(t, slices.Concat(times(of(1), 9000), times(of(-1), 8999)), 4000, times(of(1), 4000))
}

// TestCmp tests P2.2: Cmp, with letters and words in ascending order.
func TestCmp(t *testing.T) {
	letters := []int{0, 1, -1, 2, -2, 3, -3, 16, -16, 17, 1 << 32, -(1 << 32), math.MaxInt - 1, -(math.MaxInt - 1), math.MaxInt, -math.MaxInt, math.MinInt}
	l := []api.Word{nil}
	for _, x := range letters {
		l = append(l, of(x))
	}
	for _, x := range letters {
		for _, y := range letters {
			l = append(l, of(x, y))
		}
	}
	l = append(l, of(0, 0, 0), of(1, -1, 1), of(1, -1, -1), of(math.MinInt, 1, 1), times(of(0), 5000))
	for i, a := range l {
		for k, b := range l {
			want := 0
			if i < k {
				want = -1
			} else if i > k {
				want = 1
			}
			if got := Cmp(a, b); got != want {
				t.Fatalf("Cmp(%v, %v) = %d, want %d", a, b, got, want)
			}
		}
	}
	if Cmp(of(), nil) != 0 || Cmp(nil, of()) != 0 {
		t.Errorf("an empty word is not equal to none")
	}
}

// TestMemory tests rule R4: arguments stay as they are, and results share no memory with them.
func TestMemory(t *testing.T) {
	a, b := of(1, 2, -1, 3), of(-3, 2)
	for name, f := range map[string]func() api.Word{
		"Reduce": func() api.Word { return Reduce(a) },
		"Invert": func() api.Word { return Invert(a) },
		"Mul":    func() api.Word { return Mul(a, b) },
		"Mul 1":  func() api.Word { return Mul(a, nil) },
		"Mul 2":  func() api.Word { return Mul(nil, a) },
		"Conj":   func() api.Word { return Conj(a, b) },
		"Comm":   func() api.Word { return Comm(a, b) },
		"Cyclic": func() api.Word { return Cyclic(a) },
		"Pow 1":  func() api.Word { w, _ := Pow(a, 1); return w },
		"Pow 2":  func() api.Word { w, _ := Pow(a, 2); return w },
		"Subst":  func() api.Word { w, _ := Subst(of(1), []api.Word{a}); return w },
		"Subst2": func() api.Word { w, _ := Subst(of(1, -2, 1), []api.Word{a, b}); return w },
	} {
		got := f()
		want := slices.Clone(got)
		for i := range got[:cap(got)] {
			got[:cap(got)][i] = 99
		}
		if !slices.Equal(a, of(1, 2, -1, 3)) || !slices.Equal(b, of(-3, 2)) {
			t.Fatalf("%s: the arguments are %v, %v", name, a, b)
		}
		same(t, name+" again", f(), want)
	}
}
