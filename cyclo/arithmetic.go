package cyclo

import (
	"cmp"

	"cayley/api"
)

// Add returns a sum.
func Add(a, b api.Cyc) (api.Cyc, api.Errno) { return combine(a, b, sum) }

// Mul returns a product.
func Mul(a, b api.Cyc) (api.Cyc, api.Errno) { return combine(a, b, product) }

// combine checks two numbers, and returns what a function makes of the coefficients of the n powers of z(n) with which both can be written.
func combine(a, b api.Cyc, f func(c, d []int) []int) (api.Cyc, api.Errno) {
	p := newPolynomials()
	if e := cmp.Or(p.check(a), p.check(b)); e != api.OK {
		return api.Cyc{}, e
	}
	n := a.N / gcd(a.N, b.N) * b.N
	if !isOrder(n) {
		return api.Cyc{}, api.ErrOver
	}
	return p.number(n, f(powers(n, n/a.N, a.C), powers(n, n/b.N, b.C)))
}

// sum adds the coefficients of the n powers of z(n).
func sum(c, d []int) []int {
	l := make([]int, len(c))
	for i := range l {
		l[i] = c[i] + d[i]
	}
	return l
}

// product multiplies sums of the n powers of z(n), given by their coefficients. All ints stay below 2^60, up to the canonical form: at most 112 products of coefficients of numbers, each up to 10^14, come together at a power, and no coefficient on the way from there is made of more than 66 of such sums.
func product(c, d []int) []int {
	l := make([]int, len(c))
	for i, x := range c {
		if x == 0 {
			continue
		}
		for j, y := range d {
			l[(i+j)%len(l)] += x * y
		}
	}
	return l
}

// Scale returns a multiple.
func Scale(a api.Cyc, k int) (api.Cyc, api.Errno) {
	p := newPolynomials()
	e := p.check(a)
	if e == api.OK && isOver(k) {
		e = api.ErrOver
	}
	if e != api.OK {
		return api.Cyc{}, e
	}
	c := make([]int, len(a.C))
	for i, x := range a.C {
		c[i] = x * k
	}
	return p.number(a.N, c)
}

// Quot divides by an integer.
func Quot(a api.Cyc, k int) (api.Cyc, api.Errno) {
	e := Check(a)
	if e == api.OK && k == 0 {
		e = api.ErrZero
	}
	if e != api.OK {
		return api.Cyc{}, e
	}
	c := make([]int, len(a.C))
	for i, x := range a.C {
		if x%k != 0 {
			return api.Cyc{}, api.ErrNone
		}
		c[i] = x / k
	}
	return api.Cyc{N: a.N, C: c}, api.OK
}

// Galois applies an automorphism.
func Galois(a api.Cyc, k int) (api.Cyc, api.Errno) {
	p := newPolynomials()
	if e := p.check(a); e != api.OK {
		return api.Cyc{}, e
	}
	k = residue(k, a.N)
	if gcd(k, a.N) != 1 {
		return api.Cyc{}, api.ErrNone
	}
	return p.number(a.N, powers(a.N, k, a.C))
}

// Conj returns the complex conjugate.
func Conj(a api.Cyc) (api.Cyc, api.Errno) { return Galois(a, -1) }
