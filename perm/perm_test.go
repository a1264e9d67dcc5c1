package perm

import (
	"fmt"
	"math"
	"math/rand"
	"slices"
	"testing"

	"cayley/api"
)

// exampleA and exampleB are a and b of the chapter's examples.
func exampleA() api.Perm { return api.Perm{1, 2, 0, 4, 3} }
func exampleB() api.Perm { return api.Perm{0, 1, 2, 4, 3} }

// every returns all permutations of degree n, ascending.
func every(n int) []api.Perm {
	l := []api.Perm{{}}
	for range n {
		var longer []api.Perm
		for _, p := range l {
			for x := range n {
				if !slices.Contains(p, x) {
					longer = append(longer, append(slices.Clone(p), x))
				}
			}
		}
		l = longer
	}
	return l
}

// shuffled returns permutations of several degrees up to the greatest one, always the same ones.
func shuffled(count int) []api.Perm {
	r := rand.New(rand.NewSource(1))
	degrees := []int{1, 2, 9, 10, 11, 12, 31, 63, 64}
	var l []api.Perm
	for i := range count {
		l = append(l, r.Perm(degrees[i%len(degrees)]))
	}
	return l
}

// must returns a result that has no error.
func must[T any](t *testing.T) func(x T, e api.Errno) T {
	return func(x T, e api.Errno) T {
		t.Helper()
		if e != api.OK {
			t.Fatalf("error %d", int(e))
		}
		return x
	}
}

// invalid lists lists that are no permutations, with their errors.
func invalid() []struct {
	p api.Perm
	e api.Errno
} {
	return []struct {
		p api.Perm
		e api.Errno
	}{
		{nil, api.ErrRange}, {api.Perm{}, api.ErrRange}, {make(api.Perm, 65), api.ErrRange}, {one(65), api.ErrRange}, {make(api.Perm, 1000), api.ErrRange},
		{api.Perm{1}, api.ErrForm}, {api.Perm{-1}, api.ErrForm}, {api.Perm{0, 0}, api.ErrForm}, {api.Perm{1, 2}, api.ErrForm}, {api.Perm{0, 2}, api.ErrForm},
		{api.Perm{0, -1}, api.ErrForm}, {api.Perm{0, math.MaxInt}, api.ErrForm}, {api.Perm{math.MinInt, 0}, api.ErrForm}, {make(api.Perm, 64), api.ErrForm},
		{append(one(63), 62), api.ErrForm}, {append(one(63), 64), api.ErrForm},
	}
}

// TestCheck tests P1.1: Check.
func TestCheck(t *testing.T) {
	for _, x := range invalid() {
		if e := Check(x.p); e != x.e {
			t.Errorf("Check(%v) = %d, want %d", x.p, e, x.e)
		}
	}
	for _, p := range shuffled(90) {
		if e := Check(p); e != api.OK {
			t.Errorf("Check(%v) = %d", p, e)
		}
	}
}

// TestCheckEvery tests P1.1: Check, with all lists of three numbers from -1 to 3.
func TestCheckEvery(t *testing.T) {
	valid := 0
	for k := range 125 {
		p := api.Perm{k%5 - 1, k/5%5 - 1, k/25 - 1}
		sorted := slices.Clone(p)
		slices.Sort(sorted)
		want := api.ErrForm
		if slices.Equal(sorted, api.Perm{0, 1, 2}) {
			want = api.OK
			valid++
		}
		if e := Check(p); e != want {
			t.Errorf("Check(%v) = %d, want %d", p, e, want)
		}
	}
	if valid != 6 {
		t.Errorf("%d lists are permutations", valid)
	}
}

// TestOne tests P1.1: One.
func TestOne(t *testing.T) {
	for n := 1; n <= 64; n++ {
		p := must[api.Perm](t)(One(n))
		if len(p) != n {
			t.Fatalf("One(%d) = %v", n, p)
		}
		for i, x := range p {
			if i != x {
				t.Fatalf("One(%d) = %v", n, p)
			}
		}
	}
	for _, n := range []int{0, -1, 65, 1 << 32, math.MinInt, math.MaxInt} {
		if p, e := One(n); p != nil || e != api.ErrRange {
			t.Errorf("One(%d) = %v, %d", n, p, e)
		}
	}
}

// TestExamples tests P1.1 with the chapter's examples.
func TestExamples(t *testing.T) {
	a, b, c := exampleA(), exampleB(), api.Perm{0, 2, 1, 3, 4}
	ok := must[api.Perm](t)
	for i, x := range []struct{ got, want api.Perm }{
		{ok(Mul(a, b)), api.Perm{1, 2, 0, 3, 4}},
		{ok(Mul(b, a)), api.Perm{1, 2, 0, 3, 4}},
		{ok(Inv(a)), api.Perm{2, 0, 1, 4, 3}},
		{ok(Pow(a, -1)), api.Perm{2, 0, 1, 4, 3}},
		{ok(Pow(a, 7)), api.Perm{1, 2, 0, 4, 3}},
		{ok(Conj(a, c)), api.Perm{2, 0, 1, 4, 3}},
		{ok(Comm(a, c)), api.Perm{1, 2, 0, 3, 4}},
	} {
		if !slices.Equal(x.got, x.want) {
			t.Errorf("example %d: %v, want %v", i, x.got, x.want)
		}
	}
}

// TestMul tests P1.1: Mul, Inv, Conj and Comm, point by point.
func TestMul(t *testing.T) {
	ok := must[api.Perm](t)
	for _, a := range every(4) {
		x := ok(Inv(a))
		for i := range a {
			if x[a[i]] != i {
				t.Fatalf("Inv(%v) = %v", a, x)
			}
		}
		for _, b := range every(4) {
			y := ok(Inv(b))
			product, conjugate, commutator := ok(Mul(a, b)), ok(Conj(a, b)), ok(Comm(a, b))
			for i := range a {
				if product[i] != b[a[i]] {
					t.Fatalf("Mul(%v, %v) = %v", a, b, product)
				}
				if conjugate[i] != b[a[y[i]]] {
					t.Fatalf("Conj(%v, %v) = %v", a, b, conjugate)
				}
				if commutator[i] != b[a[y[x[i]]]] {
					t.Fatalf("Comm(%v, %v) = %v", a, b, commutator)
				}
			}
		}
	}
}

// TestPow tests P1.1: Pow, against products one by one.
func TestPow(t *testing.T) {
	ok := must[api.Perm](t)
	for _, a := range append(every(4), shuffled(27)...) {
		up, down, back := one(len(a)), one(len(a)), ok(Inv(a))
		for n := range 70 {
			if p := ok(Pow(a, n)); !slices.Equal(p, up) {
				t.Fatalf("Pow(%v, %d) = %v, want %v", a, n, p, up)
			}
			if p := ok(Pow(a, -n)); !slices.Equal(p, down) {
				t.Fatalf("Pow(%v, %d) = %v, want %v", a, -n, p, down)
			}
			up, down = ok(Mul(up, a)), ok(Mul(down, back))
		}
	}
}

// TestPowGreat tests P1.1: Pow, with exponents at the ends of int.
func TestPowGreat(t *testing.T) {
	ok := must[api.Perm](t)
	for _, a := range append(every(5), shuffled(27)...) {
		order := must[int](t)(Order(a))
		for _, n := range []int{math.MaxInt, math.MaxInt - 1, math.MinInt, math.MinInt + 1, math.MaxInt32 + 1, math.MinInt32 - 1, math.MaxUint32 + 1} {
			// The remainder has the sign of n: a small exponent with the same power.
			want := ok(Pow(a, n%order))
			if p := ok(Pow(a, n)); !slices.Equal(p, want) {
				t.Fatalf("Pow(%v, %d) = %v, want %v", a, n, p, want)
			}
		}
	}
}

// TestCmp tests P1.1: Cmp.
func TestCmp(t *testing.T) {
	for _, x := range []struct {
		a, b api.Perm
		want int
	}{
		{nil, nil, 0}, {nil, api.Perm{}, 0}, {api.Perm{}, nil, 0}, {nil, api.Perm{0}, -1}, {api.Perm{math.MinInt}, nil, 1},
		{api.Perm{0, 1}, api.Perm{0, 1, 2}, -1}, {api.Perm{0, 1, 2}, api.Perm{0, 1}, 1}, {api.Perm{0, 2}, api.Perm{0, 1, 2}, 1}, {api.Perm{2}, api.Perm{10}, -1},
		{exampleA(), exampleB(), 1}, {exampleB(), exampleA(), -1}, {exampleA(), exampleA(), 0},
		{api.Perm{5, 5, 5}, api.Perm{5, 5, 6}, -1}, {api.Perm{math.MaxInt}, api.Perm{math.MinInt}, 1}, {api.Perm{math.MinInt}, api.Perm{math.MaxInt}, -1},
		{append(make(api.Perm, 100), 1), make(api.Perm, 101), 1},
	} {
		if got := Cmp(x.a, x.b); got != x.want {
			t.Errorf("Cmp(%v, %v) = %d, want %d", x.a, x.b, got, x.want)
		}
	}
	l := every(4)
	for i, a := range l {
		for k, b := range l {
			if got, want := Cmp(a, b), min(1, max(-1, i-k)); got != want {
				t.Errorf("Cmp(%v, %v) = %d, want %d", a, b, got, want)
			}
		}
	}
}

// outcome is what a call returned: whether the results beside the error are zero, and the error.
type outcome struct {
	name string
	zero bool
	e    api.Errno
}

// unary calls the functions of one permutation.
func unary(a api.Perm) []outcome {
	inverse, e1 := Inv(a)
	power, e2 := Pow(a, 0)
	order, e3 := Order(a)
	cycles, e4 := Cycles(a)
	lengths, e5 := Type(a)
	sign, e6 := Sign(a)
	text, e7 := Text(a)
	return []outcome{{"Inv", inverse == nil, e1}, {"Pow", power == nil, e2}, {"Order", order == 0, e3}, {"Cycles", cycles == nil, e4}, {"Type", lengths == nil, e5}, {"Sign", sign == 0, e6}, {"Text", text == "", e7}}
}

// binary calls the functions of two permutations.
func binary(a, b api.Perm) []outcome {
	product, e1 := Mul(a, b)
	conjugate, e2 := Conj(a, b)
	commutator, e3 := Comm(a, b)
	return []outcome{{"Mul", product == nil, e1}, {"Conj", conjugate == nil, e2}, {"Comm", commutator == nil, e3}}
}

// TestErrors tests the errors of P1.1 to P1.3 and their order: the first invalid permutation, then different degrees.
func TestErrors(t *testing.T) {
	expect := func(l []outcome, e api.Errno, args ...any) {
		t.Helper()
		for _, o := range l {
			if o.e != e || !o.zero {
				t.Errorf("%s%v: error %d, want %d; zero: %v", o.name, args, o.e, e, o.zero)
			}
		}
	}
	good := exampleA()
	for _, x := range invalid() {
		expect(unary(x.p), x.e, x.p)
		expect(binary(x.p, good), x.e, x.p, good)
		expect(binary(good, x.p), x.e, good, x.p)
		for _, y := range invalid() {
			expect(binary(x.p, y.p), x.e, x.p, y.p)
		}
	}
	expect(binary(good, api.Perm{1, 0}), api.ErrType, good, api.Perm{1, 0})
	expect(binary(api.Perm{1, 0}, good), api.ErrType, api.Perm{1, 0}, good)
	expect(binary(one(64), one(63)), api.ErrType, 64, 63)
}

// calls returns the results of calls with a and b, as text, and the lists of permutations and points among them.
func calls(a, b api.Perm) (string, [][]int) {
	p1, _ := Mul(a, b)
	p2, _ := Inv(a)
	p3, _ := Pow(a, 1)
	p4, _ := Pow(a, 0)
	p5, _ := Conj(a, b)
	p6, _ := Comm(a, b)
	p7, _ := One(len(a))
	p8, _ := Type(a)
	s, _ := Text(a)
	p9, _ := Parse(s, len(a))
	lists := [][]int{p1, p2, p3, p4, p5, p6, p7, p8, p9}
	c, _ := Cycles(a)
	lists = append(lists, c...)
	return fmt.Sprint(lists, s, Check(a), Cmp(a, b)), lists
}

// TestMemory tests P2 and R4: arguments stay as they are, results share no memory, and the same calls have the same results.
func TestMemory(t *testing.T) {
	for _, a := range append(every(3), exampleA(), shuffled(9)[8]) {
		b := slices.Clone(a)
		slices.Reverse(b)
		c, d := slices.Clone(a), slices.Clone(b)
		before, lists := calls(a, b)
		for i, l := range lists {
			l = l[:cap(l)]
			for k := range l {
				l[k] = -1 - i
			}
		}
		for i, l := range lists {
			for _, x := range l {
				if x != -1-i {
					t.Fatalf("list %d of the results for %v and %v shares memory with another one", i, c, d)
				}
			}
		}
		if !slices.Equal(a, c) || !slices.Equal(b, d) {
			t.Fatalf("arguments %v, %v became %v, %v", c, d, a, b)
		}
		if after, _ := calls(a, b); after != before {
			t.Fatalf("%s, then %s", before, after)
		}
	}
}
