package cyclo

import (
	"math"
	"math/rand"
	"slices"
	"testing"

	"cayley/api"
)

// least returns the least common multiple of two positive numbers.
func least(a, b int) int { return a / common(a, b) * b }

// some returns canonical numbers, two for each n, with coefficients up to a bound.
func some(t *testing.T, seed int64, bound int) []api.Cyc {
	r := rand.New(rand.NewSource(seed))
	var l []api.Cyc
	for n := 1; n <= 120; n++ {
		for range 2 {
			c := random(r, len(units(n)), bound)
			c[len(c)-1] = 1 + r.Intn(bound)
			l = append(l, must(t)(Make(n, c[:1+r.Intn(len(c))])))
		}
	}
	return l
}

// TestAddMul tests P6.3: sums and products of numbers of all n, compared with the reference, or ErrOver if they have no common n.
func TestAddMul(t *testing.T) {
	all := newReference()
	for _, bound := range []int{3, 10_000, 10_000_000} {
		l := some(t, 64, bound/2+1)
		for i, a := range l {
			for j, b := range l {
				if (i+j)%7 > 0 {
					continue
				}
				if least(a.N, b.N) <= 120 {
					wantBoth(t, all, a, b)
					continue
				}
				x, e := Add(a, b)
				want(t, "Add", x, e, api.Cyc{}, api.ErrOver)
				x, e = Mul(a, b)
				want(t, "Mul", x, e, api.Cyc{}, api.ErrOver)
			}
		}
	}
}

// wantBoth tests the sum and the product of two numbers with a common n.
func wantBoth(t *testing.T, all reference, a, b api.Cyc) {
	t.Helper()
	n := least(a.N, b.N)
	c, d := apart(a.C, n/a.N), apart(b.C, n/b.N)
	both := make([]int, max(len(c), len(d)))
	for i, x := range c {
		both[i] += x
	}
	for i, x := range d {
		both[i] += x
	}
	x, e := Add(a, b)
	all.wantSum(t, "Add", x, e, n, both)
	x, e = Mul(a, b)
	all.wantSum(t, "Mul", x, e, n, times(c, d))
}

// TestAddMulExtremes tests P6.3: numbers with the greatest coefficients, whose products are far above the bounds.
func TestAddMulExtremes(t *testing.T) {
	all, r := newReference(), rand.New(rand.NewSource(65))
	for _, n := range orders {
		var l []api.Cyc
		for range 4 {
			c := make([]int, len(units(n)))
			for i := range c {
				c[i] = 10_000_000 * (1 - 2*r.Intn(2))
			}
			if a, e := Make(n, c); e == api.OK {
				l = append(l, a)
			}
		}
		if a, e := Make(n, slices.Repeat([]int{-10_000_000}, len(units(n)))); e == api.OK {
			l = append(l, a)
		}
		for _, a := range l {
			for _, b := range l {
				wantBoth(t, all, a, b)
			}
		}
	}
}

// TestCommon tests P6.3: pairs whose least common multiple is 120, and pairs for which it is above.
func TestCommon(t *testing.T) {
	m := must(t)
	for _, x := range [][2]int{{120, 1}, {120, 120}, {120, 60}, {40, 3}, {24, 5}, {8, 15}, {24, 40}, {120, 8}, {60, 8}, {24, 15}, {40, 15}, {24, 60}, {40, 60}, {119, 1}, {7, 17}, {4, 29}, {3, 40}, {12, 5}, {113, 113}} {
		for _, y := range [][2]int{x, {x[1], x[0]}} {
			a, b := m(Root(y[0], 1)), m(Root(y[1], 1))
			n := least(y[0], y[1])
			c := make([]int, n)
			c[n/y[0]%n]++
			c[n/y[1]%n]++
			want(t, "Add", m(Add(a, b)), api.OK, m(Make(n, c)), api.OK)
			want(t, "Mul", m(Mul(a, b)), api.OK, m(Root(n, n/y[0]+n/y[1])), api.OK)
		}
	}
	for _, x := range [][2]int{{11, 12}, {120, 7}, {120, 9}, {120, 16}, {119, 3}, {113, 3}, {8, 17}, {11, 13}, {3, 41}, {16, 9}, {48, 5}, {120, 119}, {9, 40}, {4, 31}, {25, 7}, {64, 3}} {
		for _, y := range [][2]int{x, {x[1], x[0]}} {
			a, b := m(Root(y[0], 1)), m(Root(y[1], 1))
			z, e := Add(a, b)
			want(t, "Add", z, e, api.Cyc{}, api.ErrOver)
			z, e = Mul(a, b)
			want(t, "Mul", z, e, api.Cyc{}, api.ErrOver)
		}
	}
	// Twice 61 is above 120, but the number of z(2) is one of z(1).
	want(t, "Mul", m(Mul(m(Root(2, 1)), m(Root(61, 1)))), api.OK, m(Scale(m(Root(61, 1)), -1)), api.OK)
	want(t, "Add", m(Add(m(Root(118, 1)), m(Root(59, 30)))), api.OK, num(1, 0), api.OK)
}

// TestResultBounds tests P6.3: results at the bounds of the coefficients, and just above them.
func TestResultBounds(t *testing.T) {
	const most = 10_000_000
	for _, x := range []struct {
		f      func(a, b api.Cyc) (api.Cyc, api.Errno)
		a, b   api.Cyc
		wanted api.Cyc
		e      api.Errno
	}{
		{Add, num(1, most-1), num(1, 1), num(1, most), api.OK}, {Add, num(1, most), num(1, 1), num(0), api.ErrOver}, {Add, num(1, 1-most), num(1, -1), num(1, -most), api.OK}, {Add, num(1, -most), num(1, -1), num(0), api.ErrOver}, {Add, num(1, most), num(1, most), num(0), api.ErrOver},
		{Add, num(1, most), num(1, -most), num(1, 0), api.OK}, {Add, num(4, most, 1), num(4, 0, most-1), num(4, most, most), api.OK}, {Add, num(4, most, 1), num(4, 0, most), num(0), api.ErrOver}, {Add, num(4, 5, most), num(4, 5, -most), num(1, 10), api.OK}, {Add, num(4, most, -most), num(4, 1, most), num(0), api.ErrOver},
		{Add, num(3, 0, most), num(4, 0, most), num(12, -most, 0, most, most), api.OK}, {Add, num(3, 1, most), num(4, -2, most), num(0), api.ErrOver},
		{Mul, num(1, 2500), num(1, 4000), num(1, most), api.OK}, {Mul, num(1, 11), num(1, 909_091), num(0), api.ErrOver}, {Mul, num(1, -2500), num(1, 4000), num(1, -most), api.OK}, {Mul, num(1, -11), num(1, 909_091), num(0), api.ErrOver}, {Mul, num(1, most), num(1, most), num(0), api.ErrOver}, {Mul, num(1, most), num(1, 0), num(1, 0), api.OK},
		{Mul, num(1, most), num(1, -1), num(1, -most), api.OK}, {Mul, num(3, 0, most), num(3, 0, 1), num(3, -most, -most), api.OK}, {Mul, num(3, 0, most), num(3, -1, -1), num(1, most), api.OK}, {Mul, num(3, 0, most), num(3, 1, -1), num(0), api.ErrOver}, {Mul, num(4, 0, -2500), num(4, 0, 4000), num(1, most), api.OK}, {Mul, num(4, 1, 2500), num(4, -1, 4000), num(0), api.ErrOver},
		// The square of (1 + z + z^2 + z^3)*k is k^2*z^3, but before its coefficients go up to 4*k^2.
		{Mul, num(5, 3162, 3162, 3162, 3162), num(5, 3162, 3162, 3162, 3162), num(5, 0, 0, 0, 3162*3162), api.OK}, {Mul, num(5, 3163, 3163, 3163, 3163), num(5, 3163, 3163, 3163, 3163), num(0), api.ErrOver}, {Mul, num(5, 2500, 2500, 2500, 2500), num(5, 4000, 4000, 4000, 4000), num(5, 0, 0, 0, most), api.OK},
		{Mul, num(5, most, most, most, most), num(5, 0, -1, 0, 0), num(1, most), api.OK}, {Mul, num(5, most, most, most, most), num(5, 0, 0, 0, -1), num(5, 0, 0, most, 0), api.OK},
	} {
		a, e := x.f(x.a, x.b)
		want(t, "the result", a, e, x.wanted, x.e)
	}
}

// TestHiddenBounds tests P6.3: sums with a divisor of n whose coefficients are within the bounds, but those with n are not.
func TestHiddenBounds(t *testing.T) {
	found := 0
	for _, x := range [][2]int{{15, 5}, {15, 3}, {21, 7}, {35, 5}, {35, 7}, {105, 35}, {105, 21}, {60, 20}, {105, 5}, {105, 7}} {
		n, d := x[0], x[1]
		r := rand.New(rand.NewSource(66))
		for range 200 {
			half := make([]int, len(units(d)))
			for i := range half {
				half[i] = 5_000_000 * (r.Intn(3) - 1)
			}
			root := must(t)(Root(n, 1))
			whole, e1 := Make(d, half)
			a, e2 := Add(whole, root)
			b, e3 := Add(whole, must(t)(Scale(root, -1)))
			if e1 != api.OK || e2 != api.OK || e3 != api.OK {
				continue
			}
			twice, e := Add(a, b)
			wanted, we := Scale(whole, 2)
			want(t, "Add", twice, e, wanted, we)
			if large := newPolynomials().reduce(n, apart(half, n/d)); slices.ContainsFunc(large, func(x int) bool { return x > 5_000_000 || x < -5_000_000 }) {
				found++
			}
		}
	}
	if found == 0 {
		t.Error("no sum has larger coefficients with n")
	}
}

// TestScale tests P6.3: multiples by all kinds of factors, and the bounds.
func TestScale(t *testing.T) {
	const most = 10_000_000
	for _, a := range some(t, 67, 100) {
		for _, k := range []int{0, 1, -1, 2, -3, 100_000, -100_000} {
			x, e := Scale(a, k)
			c := slices.Clone(a.C)
			for i := range c {
				c[i] *= k
			}
			wanted := num(a.N, c...)
			if k == 0 {
				wanted = num(1, 0)
			}
			if slices.ContainsFunc(c, func(x int) bool { return x < -most || x > most }) {
				want(t, "Scale", x, e, api.Cyc{}, api.ErrOver)
			} else {
				want(t, "Scale", x, e, wanted, api.OK)
			}
		}
		for _, k := range overs() {
			x, e := Scale(a, k)
			want(t, "Scale by a large number", x, e, api.Cyc{}, api.ErrOver)
		}
	}
	for _, x := range []struct {
		a      api.Cyc
		k      int
		wanted api.Cyc
		e      api.Errno
	}{
		{num(1, 1), most, num(1, most), api.OK}, {num(1, 1), -most, num(1, -most), api.OK}, {num(1, -1), -most, num(1, most), api.OK}, {num(1, 2), most, num(0), api.ErrOver}, {num(1, 0), most, num(1, 0), api.OK}, {num(1, 0), -most, num(1, 0), api.OK}, {num(1, most), 1, num(1, most), api.OK}, {num(1, most), -1, num(1, -most), api.OK},
		{num(1, -most), -1, num(1, most), api.OK}, {num(1, most), 0, num(1, 0), api.OK}, {num(1, most), most, num(0), api.ErrOver}, {num(1, -most), -most, num(0), api.ErrOver}, {num(1, 11), 909_091, num(0), api.ErrOver}, {num(1, 11), 909_090, num(1, 9_999_990), api.OK}, {num(4, 1, 11), -909_091, num(0), api.ErrOver}, {num(3, 5, -5), 2_000_000, num(3, most, -most), api.OK},
		{num(1, 0), most + 1, num(0), api.ErrOver}, {num(1, 0), -most - 1, num(0), api.ErrOver}, {num(1, 0), math.MinInt, num(0), api.ErrOver}, {num(1, 0), math.MaxInt, num(0), api.ErrOver}, {num(1, 1), math.MinInt, num(0), api.ErrOver}, {num(3, 0, 7), 0, num(1, 0), api.OK},
		{num(1, 2), 1<<63 - 1, num(0), api.ErrOver}, {num(1, 2), -1 << 63, num(0), api.ErrOver}, {num(1, 4), 1 << 62, num(0), api.ErrOver}, // Their products wrap around.
	} {
		a, e := Scale(x.a, x.k)
		want(t, "Scale", a, e, x.wanted, x.e)
	}
}

// TestQuot tests P6.3: quotients are the numbers whose multiples are given.
func TestQuot(t *testing.T) {
	const most = 10_000_000
	for _, b := range some(t, 68, 30) {
		for _, k := range []int{1, -1, 2, -2, 7, 30_000, -100_000} {
			a := must(t)(Scale(b, k))
			x, e := Quot(a, k)
			want(t, "Quot of a multiple", x, e, b, api.OK)
		}
		above := max(slices.Max(b.C), -slices.Min(b.C)) + 1
		for _, k := range []int{above, -above, most + 1, -most - 1, math.MinInt, math.MinInt + 1, math.MaxInt, 1 << 32} {
			x, e := Quot(b, k)
			if same(b, num(1, 0)) {
				want(t, "Quot of 0", x, e, b, api.OK)
			} else {
				want(t, "Quot by a large number", x, e, api.Cyc{}, api.ErrNone)
			}
		}
		x, e := Quot(b, 0)
		want(t, "Quot by 0", x, e, api.Cyc{}, api.ErrZero)
	}
	for _, x := range []struct {
		a      api.Cyc
		k      int
		wanted api.Cyc
		e      api.Errno
	}{
		{num(1, 0), 1, num(1, 0), api.OK}, {num(1, 0), -7, num(1, 0), api.OK}, {num(1, 0), math.MinInt, num(1, 0), api.OK}, {num(1, 0), math.MaxInt, num(1, 0), api.OK}, {num(1, 0), 0, num(0), api.ErrZero}, {num(1, most), most, num(1, 1), api.OK}, {num(1, most), -most, num(1, -1), api.OK}, {num(1, -most), -1, num(1, most), api.OK}, {num(1, -most), 1, num(1, -most), api.OK},
		{num(1, most), most + 1, num(0), api.ErrNone}, {num(1, -most), math.MinInt, num(0), api.ErrNone}, {num(1, -1), math.MinInt, num(0), api.ErrNone}, {num(1, -1), math.MaxInt, num(0), api.ErrNone}, {num(1, 7), 2, num(0), api.ErrNone}, {num(1, -7), 2, num(0), api.ErrNone}, {num(1, -6), 2, num(1, -3), api.OK},
		{num(4, 4, 6), 2, num(4, 2, 3), api.OK}, {num(4, 4, 6), 4, num(0), api.ErrNone}, {num(4, 6, 4), 4, num(0), api.ErrNone}, {num(4, 0, 6), -6, num(4, 0, -1), api.OK}, {num(3, -10, 5), -5, num(3, 2, -1), api.OK}, {num(3, 1, 2), 3, num(0), api.ErrNone},
	} {
		a, e := Quot(x.a, x.k)
		want(t, "Quot", a, e, x.wanted, x.e)
	}
}

// TestGalois tests P6.4: the images of numbers of all n under all automorphisms, compared with the reference, and exponents without one.
func TestGalois(t *testing.T) {
	all := newReference()
	for i, a := range some(t, 69, 1000) {
		for k := -3; k < a.N+3; k++ {
			images := []int{k, k - 5*a.N, k + 1<<32*a.N}
			if common(mod(k, a.N), a.N) != 1 {
				for _, k := range images {
					x, e := Galois(a, k)
					want(t, "Galois with a common divisor", x, e, api.Cyc{}, api.ErrNone)
				}
			} else if k < 3 || (i+k)%5 == 0 {
				for _, k := range images {
					x, e := Galois(a, k)
					all.wantSum(t, "Galois", x, e, a.N, image(a, k))
				}
			}
		}
		x, e := Conj(a)
		all.wantSum(t, "Conj", x, e, a.N, image(a, -1))
		for _, k := range []int{math.MinInt, math.MinInt + 1, math.MaxInt - 1, math.MaxInt} {
			x, e := Galois(a, k)
			if common(mod(k, a.N), a.N) != 1 {
				want(t, "Galois with a common divisor", x, e, api.Cyc{}, api.ErrNone)
			} else {
				all.wantSum(t, "Galois", x, e, a.N, image(a, k))
			}
		}
	}
}

func mod(k, n int) int {
	k %= n
	if k < 0 {
		k += n
	}
	return k
}

// image returns the coefficients of all powers in the image under the automorphism k.
func image(a api.Cyc, k int) []int {
	c := make([]int, a.N)
	for i, x := range a.C {
		c[i*mod(k, a.N)%a.N] += x
	}
	return c
}

// TestGaloisBounds tests P6.4: the exponents 0 and both ends of int, and the bounds of coefficients.
func TestGaloisBounds(t *testing.T) {
	const most = 10_000_000
	for _, k := range []int{0, 1, -1, 2, 120, math.MinInt, math.MaxInt} {
		for _, x := range []int{0, 7, -most} {
			a, e := Galois(num(1, x), k)
			want(t, "Galois of an integer", a, e, num(1, x), api.OK)
		}
	}
	for _, x := range []struct {
		a      api.Cyc
		k      int
		wanted api.Cyc
		e      api.Errno
	}{
		{num(3, 0, 1), 0, num(0), api.ErrNone}, {num(3, 0, 1), 3, num(0), api.ErrNone}, {num(3, 0, 1), -3, num(0), api.ErrNone}, {num(3, 0, 1), 2, num(3, -1, -1), api.OK}, {num(3, 0, 1), math.MaxInt, num(3, 0, 1), api.OK}, {num(3, 0, 1), math.MinInt, num(3, 0, 1), api.OK}, {num(4, 0, 1), math.MinInt, num(0), api.ErrNone}, {num(4, 0, 1), math.MinInt + 1, num(4, 0, 1), api.OK},
		{num(4, 0, 1), math.MaxInt, num(4, 0, -1), api.OK}, {num(4, 0, 1), 2, num(0), api.ErrNone}, {num(12, 0, 1, 0, 0), 3, num(0), api.ErrNone}, {num(12, 0, 1, 0, 0), 4, num(0), api.ErrNone}, {num(12, 0, 1, 0, 0), 7, num(12, 0, -1, 0, 0), api.OK}, {num(12, 0, 1, 0, 0), -5, num(12, 0, -1, 0, 0), api.OK},
		{num(5, most, -most, 0, 0), 4, num(0), api.ErrOver}, {num(5, most, -most, 0, 0), -1, num(0), api.ErrOver}, {num(5, most, -most, 0, 0), 2, num(5, most, 0, -most, 0), api.OK}, {num(3, most, most), 2, num(3, 0, -most), api.OK}, {num(3, -1, most), 2, num(0), api.ErrOver}, {num(3, 0, most), -1, num(3, -most, -most), api.OK},
		{num(5, most, -most, 0, 0), 10, num(0), api.ErrNone},
	} {
		a, e := Galois(x.a, x.k)
		want(t, "Galois", a, e, x.wanted, x.e)
	}
	a, e := Conj(num(5, most, -most, 0, 0))
	want(t, "Conj", a, e, api.Cyc{}, api.ErrOver)
	a, e = Conj(num(5, most, -1, 0, 0))
	want(t, "Conj", a, e, api.Cyc{}, api.ErrOver)
	a, e = Conj(num(5, -most, -most, 0, 0))
	want(t, "Conj", a, e, num(5, 0, most, most, most), api.OK)
}
