package cyclo

import (
	"cmp"
	"math"
	"math/rand"
	"slices"
	"testing"

	"cayley/api"
)

// badOrders are numbers that are not from 1 to 120.
func badOrders() []int {
	return []int{math.MinInt, math.MinInt + 1, -1 << 32, -121, -120, -119, -3, -2, -1, 0, 121, 122, 240, 1 << 32, 1<<32 + 1, 1<<32 + 120, math.MaxInt - 1, math.MaxInt}
}

// overs are numbers that are not from -10,000,000 to 10,000,000.
func overs() []int {
	return []int{math.MinInt, math.MinInt + 1, -1 << 32, -20_000_000, -10_000_001, 10_000_001, 20_000_000, 1 << 32, math.MaxInt - 1, math.MaxInt}
}

// TestExamples tests the chapter's examples.
func TestExamples(t *testing.T) {
	m := must(t)
	root := func(n, k int) api.Cyc { return m(Root(n, k)) }
	for _, x := range []struct {
		got    api.Cyc
		wanted api.Cyc
	}{
		{root(3, 1), num(3, 0, 1)}, {root(6, 1), num(3, 1, 1)}, {root(4, 2), num(1, -1)}, {root(5, -1), num(5, -1, -1, -1, -1)}, {root(8, 9), num(8, 0, 1, 0, 0)},
		{m(Add(root(8, 1), root(8, 7))), num(8, 0, 1, 0, -1)}, {m(Mul(num(8, 0, 1, 0, -1), num(8, 0, 1, 0, -1))), num(1, 2)}, {m(Add(root(5, 1), root(5, 4))), num(5, -1, 0, -1, -1)},
		{m(Mul(root(3, 1), root(4, 1))), num(12, 0, -1, 0, 0)}, {m(Conj(root(3, 1))), num(3, -1, -1)}, {m(Galois(root(5, 1), 2)), num(5, 0, 0, 1, 0)},
		{m(Make(6, []int{1, 1, 1, 1, 1, 1})), num(1, 0)}, {m(Make(4, []int{0, 0, 0, 0, 5})), num(1, 5)}, {m(Quot(num(1, 6), -3)), num(1, -2)},
	} {
		want(t, "an example", x.got, api.OK, x.wanted, api.OK)
	}
	fails := func(name string, wanted api.Errno) func(a api.Cyc, e api.Errno) {
		return func(a api.Cyc, e api.Errno) { want(t, name, a, e, api.Cyc{}, wanted) }
	}
	fails("Add", api.ErrOver)(Add(root(11, 1), root(12, 1)))
	fails("Galois", api.ErrNone)(Galois(root(5, 1), 10))
	fails("Quot", api.ErrNone)(Quot(num(1, 6), 4))
	fails("Int", api.ErrOver)(Int(10000001))
	for _, x := range []struct {
		a api.Cyc
		e api.Errno
	}{{num(6, 1, 1), api.ErrForm}, {num(3, 1), api.ErrForm}, {num(3, 5, 0), api.ErrForm}, {num(0), api.ErrRange}} {
		wantCheck(t, x.a, x.e)
	}
}

// TestPhi tests P6.1: some polynomials, and that those of all divisors of n have the product x^n - 1, which leaves no choice for the last one.
func TestPhi(t *testing.T) {
	known := map[int][]int{1: {-1, 1}, 2: {1, 1}, 3: {1, 1, 1}, 4: {1, 0, 1}, 6: {1, -1, 1}, 8: {1, 0, 0, 0, 1}, 9: {1, 0, 0, 1, 0, 0, 1}, 12: {1, 0, -1, 0, 1}, 15: {1, -1, 0, 1, -1, 1, 0, -1, 1}}
	for n := 1; n <= 120; n++ {
		c, e := Phi(n)
		if e != api.OK || known[n] != nil && !slices.Equal(c, known[n]) {
			t.Fatalf("Phi(%d) = %v, error %d", n, c, int(e))
		}
		if len(c) != len(units(n))+1 || c[len(c)-1] != 1 {
			t.Fatalf("Phi(%d) = %v has not the degree %d, or not the leading coefficient 1", n, c, len(units(n)))
		}
		all := []int{1}
		for d := 1; d <= n; d++ {
			if n%d == 0 {
				c, _ := Phi(d)
				all = times(all, c)
			}
		}
		wanted := make([]int, len(all))
		wanted[0], wanted[n] = -1, 1
		if !slices.Equal(all, wanted) {
			t.Fatalf("the product of Phi of all divisors of %d is %v", n, all)
		}
	}
	if c, _ := Phi(105); c[7] != -2 || c[41] != -2 || len(c) != 49 {
		t.Errorf("Phi(105) = %v", c)
	}
}

// TestPhiRange tests P6.1: numbers that have no Phi.
func TestPhiRange(t *testing.T) {
	for _, n := range badOrders() {
		if c, e := Phi(n); e != api.ErrRange || len(c) > 0 {
			t.Errorf("Phi(%d) = %v, error %d", n, c, int(e))
		}
	}
}

func wantCheck(t *testing.T, a api.Cyc, wanted api.Errno) {
	t.Helper()
	if e := Check(a); e != wanted {
		t.Fatalf("Check(%v) = error %d, want %d", a, int(e), int(wanted))
	}
}

// TestCheck tests P6.1: Check of all kinds of numbers with the right number of coefficients. It accepts those alone that the reference does not change.
func TestCheck(t *testing.T) {
	r, all := rand.New(rand.NewSource(62)), newReference()
	try := func(n int, c []int, factors ...int) {
		wanted := api.OK
		if all.number(n, c).N != n {
			wanted = api.ErrForm
		}
		for _, k := range append(factors, 1) {
			multiple := slices.Clone(c)
			for i := range c {
				multiple[i] *= k
			}
			wantCheck(t, num(n, multiple...), wanted)
		}
	}
	for n := 1; n <= 120; n++ {
		size := len(units(n))
		for i := range size {
			c := make([]int, size)
			c[i] = 1
			try(n, c, -1, 10_000_000, -10_000_000)
		}
		try(n, make([]int, size))
		try(n, slices.Repeat([]int{1}, size), -1, 10_000_000, -10_000_000)
		try(n, random(r, size, 10_000_000))
		for d := 2; d <= n; d++ {
			if n%d == 0 { // The last ones are apart from each other, so that many can be written with n/d.
				try(n, apart(random(r, size/d+1, 5), d)[:size])
			}
		}
	}
}

// TestCheckSmaller tests P6.1: numbers that can be written with less, but are not, in full.
func TestCheckSmaller(t *testing.T) {
	for _, a := range []api.Cyc{
		num(2, 0), num(2, 1), num(2, -1), num(3, 0, 0), num(3, -2, 0), num(4, 0, 0), num(4, 1, 0), num(5, 1, 0, 0, 0), num(6, 0, 1), num(6, 1, 0), num(8, 0, 0, 1, 0), num(8, 1, 0, 1, 0), num(9, 0, 0, 0, 1, 0, 0), num(10, 0, 1, 0, 0), num(14, 0, 1, 0, 0, 0, 0),
		num(12, 0, 0, 1, 0), num(12, 0, 0, 0, 1), num(15, 0, 0, 0, 0, 0, 1, 0, 0), num(15, 0, 0, 0, 1, 0, 0, 0, 0), num(15, 1, 0, 0, 0, 0, 0, 0, 0), num(18, 0, 1, 0, 0, 0, 0), num(30, 0, 1, 0, 0, 0, 0, 0, 0),
	} {
		wantCheck(t, a, api.ErrForm)
	}
	for _, a := range []api.Cyc{
		num(1, 0), num(1, -7), num(3, 0, 1), num(3, 1, 1), num(4, 0, -1), num(5, -1, 0, -1, -1), num(8, 0, 1, 0, 1), num(9, 0, 1, 0, 0, 0, 0), num(9, 0, 0, 0, 1, 1, 0), num(12, 0, 1, 0, 0), num(12, 0, 1, 0, 1), num(15, 0, 1, 0, 0, 0, 0, 0, 0), num(12, 0, 0, 1, 1),
	} {
		wantCheck(t, a, api.OK)
	}
}

// TestMake tests P6.2: sums of powers of all kinds, compared with the reference.
func TestMake(t *testing.T) {
	all := newReference()
	lists(func(n int, c []int) {
		a, e := Make(n, c)
		all.wantSum(t, "Make", a, e, n, c)
		if e == api.OK {
			wantCheck(t, a, api.OK)
		}
	})
	r := rand.New(rand.NewSource(63))
	for n := 1; n <= 120; n++ { // All exponents count modulo n.
		for _, size := range []int{0, 1, n / 2, n + 1, 2*n + 1, 999, 1000} {
			c := random(r, size, 100_000)
			a, e := Make(n, c)
			all.wantSum(t, "Make", a, e, n, c)
		}
	}
}

// TestMakeBounds tests P6.2: the greatest coefficients, in lists of the least and the greatest length, and the bounds of the canonical result.
func TestMakeBounds(t *testing.T) {
	const most = 10_000_000
	for _, n := range []int{1, 2, 105, 119, 120} {
		a, e := Make(n, nil)
		want(t, "Make of no elements", a, e, num(1, 0), api.OK)
		for _, x := range []int{most, -most} {
			a, e = Make(n, []int{x})
			want(t, "Make of one element", a, e, num(1, x), api.OK)
		}
	}
	for _, x := range []struct {
		n      int
		c      []int
		wanted api.Cyc
		e      api.Errno
	}{
		{1, []int{most, 1}, num(0), api.ErrOver}, {1, []int{most, -1}, num(1, most-1), api.OK}, {1, []int{-most, -1}, num(0), api.ErrOver}, {1, []int{most, most, -most}, num(1, most), api.OK}, {2, []int{most, most}, num(1, 0), api.OK}, {2, []int{most, -1}, num(0), api.ErrOver},
		{2, []int{-most, 1}, num(0), api.ErrOver}, {2, []int{-most, 0, most, most, 0, most}, num(0), api.ErrOver}, {3, []int{most, most, most}, num(1, 0), api.OK}, {3, []int{0, 0, most}, num(3, -most, -most), api.OK}, {3, []int{1, 0, -most}, num(0), api.ErrOver}, {3, []int{-1, 0, -most}, num(3, most-1, most), api.OK},
		{3, []int{most, 0, most}, num(3, 0, -most), api.OK}, {3, []int{-most, 0, most}, num(0), api.ErrOver}, {6, []int{most, most}, num(0), api.ErrOver}, {6, []int{0, most, 0, most}, num(3, 0, most), api.OK}, {4, []int{most, 0, -1}, num(0), api.ErrOver}, {4, []int{0, most, 0, -1}, num(0), api.ErrOver},
		{4, []int{0, most, 0, 1}, num(4, 0, most-1), api.OK}, {5, []int{most, most, most, most, most}, num(1, 0), api.OK}, {5, []int{0, 0, 0, 0, most}, num(5, -most, -most, -most, -most), api.OK}, {5, []int{0, 0, 0, -1, most}, num(0), api.ErrOver},
		{1, slices.Repeat([]int{most}, 1000), num(0), api.ErrOver}, {1, slices.Repeat([]int{10_000}, 1000), num(1, most), api.OK}, {1, append(slices.Repeat([]int{10_000}, 999), 10_001), num(0), api.ErrOver}, {1, slices.Repeat([]int{-10_000}, 1000), num(1, -most), api.OK}, {1, append(slices.Repeat([]int{-10_000}, 999), -10_001), num(0), api.ErrOver},
		{2, slices.Repeat([]int{most}, 1000), num(1, 0), api.OK}, {2, slices.Repeat([]int{most}, 999), num(1, most), api.OK}, {120, slices.Repeat([]int{most}, 960), num(1, 0), api.OK}, {105, slices.Repeat([]int{-most}, 945), num(1, 0), api.OK}, {119, append(slices.Repeat([]int{most}, 952), -5), num(1, -5), api.OK},
	} {
		a, e := Make(x.n, x.c)
		want(t, "Make", a, e, x.wanted, x.e)
	}
}

// TestMakeErrors tests P6.2: the errors of Make, and that the first one named comes first.
func TestMakeErrors(t *testing.T) {
	for _, n := range badOrders() {
		for _, c := range [][]int{nil, {1}, {10_000_001}, make([]int, 1001), slices.Repeat([]int{math.MaxInt}, 1001)} {
			a, e := Make(n, c)
			want(t, "Make", a, e, api.Cyc{}, api.ErrRange)
		}
	}
	for _, n := range []int{1, 2, 105, 119, 120} {
		for _, size := range []int{1001, 1002, 5000} {
			for _, x := range []int{0, 1, 10_000_001, math.MinInt} {
				a, e := Make(n, slices.Repeat([]int{x}, size))
				want(t, "Make of a long list", a, e, api.Cyc{}, api.ErrLong)
			}
		}
		for _, x := range overs() {
			for _, size := range []int{1, 2, n, 1000} {
				for _, i := range []int{0, size / 2, size - 1} {
					c := make([]int, size)
					c[i] = x
					a, e := Make(n, c)
					want(t, "Make of a large element", a, e, api.Cyc{}, api.ErrOver)
				}
			}
			a, e := Make(n, slices.Repeat([]int{x}, n)) // Their sum is 0 for n above 1.
			want(t, "Make of large elements", a, e, api.Cyc{}, api.ErrOver)
			a, e = Make(n, append(append([]int{x}, make([]int, n-1)...), -x))
			want(t, "Make of large elements", a, e, api.Cyc{}, api.ErrOver)
		}
	}
}

// TestRoot tests P6.2: powers of all roots, with exponents far away from 0.
func TestRoot(t *testing.T) {
	all := newReference()
	for n := 1; n <= 120; n++ {
		for k := range n {
			if k > 5 && k%7 > 0 && !slices.Contains(orders, n) {
				continue
			}
			c := make([]int, k+1)
			c[k] = 1
			wanted := all.number(n, c)
			for _, i := range []int{k, k + n, k + 2*n, k - n, k - 2*n, k - 1<<32*n, k + math.MaxInt/n*n - n, k - math.MaxInt/n*n} {
				a, e := Root(n, i)
				want(t, "Root", a, e, wanted, api.OK)
			}
		}
		for _, k := range []int{math.MinInt, math.MinInt + 1, math.MaxInt - 1, math.MaxInt} {
			c := make([]int, n)
			c[((k%n)+n)%n] = 1
			a, e := Root(n, k)
			want(t, "Root", a, e, all.number(n, c), api.OK)
		}
	}
	for _, x := range []struct {
		n, k   int
		wanted api.Cyc
	}{
		{1, 0, num(1, 1)}, {1, math.MinInt, num(1, 1)}, {1, math.MaxInt, num(1, 1)}, {2, 0, num(1, 1)}, {2, 1, num(1, -1)}, {2, 2, num(1, 1)}, {2, math.MinInt, num(1, 1)}, {2, math.MaxInt, num(1, -1)}, {4, math.MinInt, num(1, 1)}, {4, math.MaxInt, num(4, 0, -1)},
		{3, math.MaxInt, num(3, 0, 1)}, {3, math.MinInt, num(3, 0, 1)}, {120, 0, num(1, 1)}, {120, 120, num(1, 1)}, {120, -120, num(1, 1)}, {120, 60, num(1, -1)}, {120, -30, num(4, 0, -1)}, {10, 1, num(5, 0, 0, 0, -1)}, {10, 5, num(1, -1)}, {9, -3, num(3, -1, -1)},
	} {
		a, e := Root(x.n, x.k)
		want(t, "Root", a, e, x.wanted, api.OK)
	}
	for _, n := range badOrders() {
		for _, k := range []int{0, 1, n, -1, math.MinInt, math.MaxInt} {
			a, e := Root(n, k)
			want(t, "Root", a, e, api.Cyc{}, api.ErrRange)
		}
	}
}

// TestInt tests P6.2: Int.
func TestInt(t *testing.T) {
	for _, k := range []int{0, 1, -1, 2, -17, 123_456, 9_999_999, 10_000_000, -9_999_999, -10_000_000} {
		a, e := Int(k)
		want(t, "Int", a, e, num(1, k), api.OK)
	}
	for _, k := range overs() {
		a, e := Int(k)
		want(t, "Int", a, e, api.Cyc{}, api.ErrOver)
	}
}

// TestRational tests P6.4: Rational of integers, of others, and of numbers that Check does not accept.
func TestRational(t *testing.T) {
	for _, k := range []int{0, 1, -1, 17, 10_000_000, -10_000_000} {
		if x, is := Rational(num(1, k)); x != k || !is {
			t.Errorf("Rational(1: %d) = %d, %v", k, x, is)
		}
	}
	bad := []api.Cyc{
		{}, num(0, 5), num(-1, 5), num(121, 5), num(math.MinInt, 5), num(math.MaxInt, 5), num(1), num(1, 5, 0), num(1, 5, 6), num(1, 0, 5), num(2), num(2, 5), num(3), num(3, 5), num(3, 5, 0), num(3, 5, 0, 0), num(4, 5, 0), num(3, 0, 1), num(4, 0, 2), num(5, 1, 0, 0, 1), num(12, 1, 0, 1, 1),
	}
	for _, x := range overs() {
		bad = append(bad, num(1, x), num(3, x, 0), num(3, x, 1))
	}
	for _, a := range bad {
		if x, is := Rational(a); x != 0 || is {
			t.Errorf("Rational(%v) = %d, %v", a, x, is)
		}
	}
}

// TestCmp tests P6.4: Cmp of all pairs of a list of numbers in their order, most of which Check does not accept.
func TestCmp(t *testing.T) {
	const least, most = math.MinInt, math.MaxInt
	l := []api.Cyc{
		num(least, most), num(-1), num(0), num(0, least), num(0, 0), num(0, 0, 0), num(0, 1), num(1), num(1, least), num(1, -1), num(1, 0), num(1, 0, 0), num(1, 7), num(1, most), num(2, 0), num(3), num(3, -1), num(3, -1, -1), num(3, -1, 0), num(3, 0, -1), num(3, 0, 1), num(3, 0, 1, -5), num(3, 0, 2), num(3, 1, least), num(3, 1, most), num(3, 2, 0),
		num(4, least, 0), num(4, 0, 1), num(119), num(120, 1), num(121), num(121, least), num(most), num(most, 0), num(most, most),
	}
	for i, a := range l {
		for j, b := range l {
			if k := Cmp(a, b); k != cmp.Compare(i, j) {
				t.Errorf("Cmp(%v, %v) = %d", a, b, k)
			}
		}
	}
	if k := Cmp(api.Cyc{N: 1, C: nil}, api.Cyc{N: 1, C: []int{}}); k != 0 {
		t.Errorf("Cmp of no coefficients and none = %d", k)
	}
}

// TestPrimes tests that the iterator can be run twice, and broken off.
func TestPrimes(t *testing.T) {
	l := primes(90)
	for range 2 {
		if all := slices.Collect(l); !slices.Equal(all, []int{2, 3, 5}) {
			t.Errorf("the primes of 90 are %v", all)
		}
		for q := range l {
			if q == 3 {
				break
			}
		}
	}
	if all := slices.Collect(primes(1)); len(all) > 0 {
		t.Errorf("the primes of 1 are %v", all)
	}
}

// TestDivide tests the division of polynomials with coefficients of several types.
func TestDivide(t *testing.T) {
	quotient, rest := divide([]int64{7, 0, 5, 3}, []int64{-2, 1}) // 3*x^3 + 5*x^2 + 7
	if !slices.Equal(quotient, []int64{22, 11, 3}) || !slices.Equal(rest, []int64{51}) {
		t.Errorf("the quotient is %v, the rest %v", quotient, rest)
	}
	type coefficient int32
	q, r := divide([]coefficient{4}, []coefficient{1, 0, 1})
	if len(q) > 0 || !slices.Equal(r, []coefficient{4, 0}) {
		t.Errorf("the quotient is %v, the rest %v", q, r)
	}
}
