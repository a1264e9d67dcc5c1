package cyclo

import "iter"

// integer are the types of coefficients.
type integer interface{ ~int | ~int32 | ~int64 }

// divide returns the quotient and the rest of polynomials, the coefficient of the power 0 first; the leading one of b is 1. The rest has as many coefficients as the degree of b.
func divide[T integer](a, b []T) (quotient, rest []T) {
	degree := len(b) - 1
	rest = make([]T, max(len(a), degree))
	copy(rest, a)
	quotient = make([]T, max(len(a)-degree, 0))
	for i := len(quotient) - 1; i >= 0; i-- {
		k := rest[i+degree]
		quotient[i] = k
		if k == 0 {
			continue
		}
		for j, x := range b {
			rest[i+j] -= k * x
		}
	}
	return quotient, rest[:degree]
}

// polynomials remembers cyclotomic polynomials.
type polynomials struct{ known map[int][]int }

func newPolynomials() polynomials { return polynomials{map[int][]int{}} }

// phi returns the cyclotomic polynomial of n.
func (p polynomials) phi(n int) []int {
	if c, is := p.known[n]; is {
		return c
	}
	c, rest := []int{-1, 1}, n
	for q := range primes(n) {
		// The roots of the polynomial in x^q are the numbers whose q-th powers are roots of c: those whose order has the prime q, too, and the roots of c.
		c, _ = divide(spread(c, q), c)
		rest /= q
	}
	// The order has all primes of n. For any more of them, the numbers whose powers are roots are the next roots, without others.
	c = spread(c, rest)
	p.known[n] = c
	return c
}

// degree returns the degree of the cyclotomic polynomial of n.
func (p polynomials) degree(n int) int { return len(p.phi(n)) - 1 }

// spread returns the coefficients of the polynomial in x^q instead of x.
func spread(c []int, q int) []int {
	l := make([]int, (len(c)-1)*q+1)
	for i, x := range c {
		l[i*q] = x
	}
	return l
}

// primes yields the prime divisors of a positive n, ascending.
func primes(n int) iter.Seq[int] {
	return func(yield func(q int) bool) {
		rest := n
		for q := 2; rest > 1; q++ {
			if rest%q != 0 {
				continue
			}
			if !yield(q) {
				return
			}
			for rest%q == 0 {
				rest /= q
			}
		}
	}
}

// gcd returns the greatest common divisor of two numbers that are not negative.
func gcd(a, b int) int {
	for b != 0 {
		a, b = b, a%b
	}
	return a
}

// residue returns the residue of any int modulo n.
func residue(k, n int) int { return (k%n + n) % n }
