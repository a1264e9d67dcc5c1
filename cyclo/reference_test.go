package cyclo

import (
	"math/big"
	"math/bits"
	"math/rand"
	"slices"
	"testing"

	"cayley/api"
)

// num returns the number with n and the coefficients c, as it stands.
func num(n int, c ...int) api.Cyc { return api.Cyc{N: n, C: c} }

func same(a, b api.Cyc) bool { return a.N == b.N && slices.Equal(a.C, b.C) }

func copyOf(a api.Cyc) api.Cyc { return num(a.N, slices.Clone(a.C)...) }

// want reports a result that is not the expected one; with an error, everything else is to be zero.
func want(t *testing.T, name string, a api.Cyc, e api.Errno, wanted api.Cyc, we api.Errno) {
	t.Helper()
	if we != api.OK {
		wanted = api.Cyc{}
	}
	if e != we || !same(a, wanted) {
		t.Fatalf("%s is %v, error %d, want %v, error %d", name, a, int(e), wanted, int(we))
	}
}

// must returns a function that returns results, and reports their errors.
func must(t *testing.T) func(a api.Cyc, e api.Errno) api.Cyc {
	return func(a api.Cyc, e api.Errno) api.Cyc {
		t.Helper()
		if e != api.OK {
			t.Fatalf("the error %d instead of a number", int(e))
		}
		return a
	}
}

// The orders that tests of all pairs or of many numbers try: some of each kind.
var orders = []int{1, 2, 3, 4, 5, 6, 7, 8, 9, 10, 12, 15, 16, 20, 24, 25, 27, 28, 30, 35, 36, 42, 49, 60, 64, 72, 81, 84, 90, 97, 105, 110, 113, 119, 120}

// common returns the greatest common divisor of two numbers, one of them positive, by trying all.
func common(a, b int) int {
	for d := max(a, b); ; d-- {
		if a%d == 0 && b%d == 0 {
			return d
		}
	}
}

// units returns the numbers from 1 to n that have no common divisor with n.
func units(n int) []int {
	var l []int
	for k := 1; k <= n; k++ {
		if common(k, n) == 1 {
			l = append(l, k)
		}
	}
	return l
}

// field are the residues modulo a prime above 2^61 that is 1 modulo n, with a residue whose order is n. The numbers of z(n) whose coefficients are below 2^60 are told apart by their values at the powers of it with exponents that have no common divisor with n.
type field struct{ p, z uint64 }

// times returns a product of residues.
func (f field) times(a, b uint64) uint64 {
	high, low := bits.Mul64(a, b)
	_, rest := bits.Div64(high, low, f.p)
	return rest
}

// power returns a power of a residue.
func (f field) power(a uint64, k uint64) uint64 {
	x := uint64(1)
	for ; k > 0; k /= 2 {
		if k%2 == 1 {
			x = f.times(x, a)
		}
		a = f.times(a, a)
	}
	return x
}

func (f field) minus(a, b uint64) uint64 { return (a + f.p - b) % f.p }

// residue returns the residue of an int.
func (f field) residue(x int) uint64 {
	if x < 0 {
		return f.minus(0, uint64(-x))
	}
	return uint64(x)
}

// symmetric returns the least int, apart from its sign, with a residue.
func (f field) symmetric(a uint64) int {
	if a > f.p/2 {
		return -int(f.p - a)
	}
	return int(a)
}

// newField returns the field for n.
func newField(n int) field {
	f := field{}
	for f.p = uint64(1<<61/n*n + n + 1); !new(big.Int).SetUint64(f.p).ProbablyPrime(20); f.p += uint64(n) {
	}
	for g := uint64(2); ; g++ {
		f.z = f.power(g, (f.p-1)/uint64(n))
		order := 1
		for x := f.z; x != 1; x = f.times(x, f.z) {
			order++
		}
		if order == n {
			return f
		}
	}
}

// reference makes canonical numbers without polynomials: from values in fields, which it remembers.
type reference struct{ fields map[int]field }

func newReference() reference { return reference{map[int]field{}} }

// number returns the canonical number of the sum of c[i]*z(n)^i, with no bound of its coefficients but 2^60.
func (r reference) number(n int, c []int) api.Cyc {
	f, is := r.fields[n]
	if !is {
		f = newField(n)
		r.fields[n] = f
	}
	var l []uint64
	for _, x := range c {
		l = append(l, f.residue(x))
	}
	values := map[int]uint64{}
	for _, k := range units(n) {
		values[k] = f.value(l, f.power(f.z, uint64(k)))
	}
	for m := 1; ; m++ {
		if n%m == 0 {
			if c, is := f.fit(n, m, values); is {
				return num(m, c...)
			}
		}
	}
}

// fit returns the coefficients with m of the number that has values at the powers of the residue with the order n; false if there is none.
func (f field) fit(n, m int, values map[int]uint64) ([]int, bool) {
	at := map[int]uint64{}
	for k, x := range values {
		if y, is := at[k%m]; is && x != y {
			return nil, false
		}
		at[k%m] = x
	}
	// Newton's interpolation: c is the polynomial with the values at the points so far, and zeros is the one that is 0 there.
	c, zeros := []uint64{}, []uint64{1}
	for k, y := range at {
		x := f.power(f.z, uint64(n/m*k))
		factor := f.times(f.minus(y, f.value(c, x)), f.power(f.value(zeros, x), f.p-2))
		c = append(c, 0)
		for i, a := range zeros {
			c[i] = (c[i] + f.times(factor, a)) % f.p
		}
		zeros = append(zeros, 0)
		for i := len(zeros) - 1; i >= 0; i-- {
			zeros[i] = f.minus(0, f.times(x, zeros[i]))
			if i > 0 {
				zeros[i] = (zeros[i] + zeros[i-1]) % f.p
			}
		}
	}
	var l []int
	for _, x := range c {
		l = append(l, f.symmetric(x))
	}
	return l, true
}

// value returns the value of a polynomial.
func (f field) value(c []uint64, x uint64) uint64 {
	sum := uint64(0)
	for _, a := range slices.Backward(c) {
		sum = (f.times(sum, x) + a) % f.p
	}
	return sum
}

// wantSum reports a result that is not the canonical number of the sum of c[i]*z(n)^i, or ErrOver if its coefficients are above the bounds.
func (r reference) wantSum(t *testing.T, name string, a api.Cyc, e api.Errno, n int, c []int) {
	t.Helper()
	wanted, we := r.number(n, c), api.OK
	for _, x := range wanted.C {
		if x < -10_000_000 || x > 10_000_000 {
			we = api.ErrOver
		}
	}
	want(t, name, a, e, wanted, we)
}

// apart returns coefficients of powers of z(k*n) for those of powers of z(n).
func apart(c []int, k int) []int {
	l := make([]int, len(c)*k)
	for i, x := range c {
		l[i*k] = x
	}
	return l
}

// times returns the product of two polynomials.
func times(c, d []int) []int {
	l := make([]int, len(c)+len(d))
	for i, x := range c {
		for j, y := range d {
			l[i+j] += x * y
		}
	}
	return l
}

// random returns a list of n numbers from -bound to bound, about half of them 0.
func random(r *rand.Rand, n, bound int) []int {
	l := make([]int, n)
	for i := range l {
		l[i] = r.Intn(2) * (r.Intn(2*bound+1) - bound)
	}
	return l
}

// lists calls f with n and coefficients of n powers of z(n), of many kinds: sparse and full, large and small, and such that the sum can be written with divisors of n.
func lists(f func(n int, c []int)) {
	r := rand.New(rand.NewSource(61))
	for n := 1; n <= 120; n++ {
		f(n, random(r, n, 2))
		f(n, random(r, n, 10_000_000))
		for d := 1; d <= n; d++ {
			if n%d != 0 {
				continue
			}
			f(n, slices.Repeat([]int{d}, n))
			f(n, apart(random(r, d, 3), n/d))
			f(n, hidden(r, n, d))
			f(n, hidden(r, n, d))
		}
	}
}

// hidden returns coefficients of powers of z(n), few of them 0, of a sum that can be written with its divisor d.
func hidden(r *rand.Rand, n, d int) []int {
	c := apart(random(r, d, 1_000_000), n/d)
	for q := 2; q <= n; q++ {
		if n%q != 0 {
			continue
		}
		// A power, times the sum of all powers of z(q), is 0.
		k, x := r.Intn(n), r.Intn(2001)-1000
		for i := range q {
			c[(k+i*(n/q))%n] += x
		}
	}
	return c
}
