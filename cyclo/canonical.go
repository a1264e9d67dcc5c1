package cyclo

import "slices"

// powers returns the coefficients of the n powers of z(n) in the sum of c[i]*z(n)^(k*i).
func powers(n, k int, c []int) []int {
	l := make([]int, n)
	for i, x := range c {
		l[i*k%n] += x
	}
	return l
}

// canonical returns the least number with which the sum of c[i]*z(n)^i can be written, and its coefficients.
func (p polynomials) canonical(n int, c []int) (int, []int) {
	c = p.reduce(n, c)
search:
	for {
		for q := range primes(n) {
			if lower, is := p.lower(n, q, c); is {
				n, c = n/q, lower
				continue search
			}
		}
		return n, c
	}
}

// reduce returns the only coefficients, as many as the degree of the cyclotomic polynomial of n, of a sum of powers of z(n).
func (p polynomials) reduce(n int, c []int) []int {
	_, rest := divide(c, p.phi(n))
	return rest
}

// lower returns the coefficients with n/q, for a prime divisor q of n, of a number that is given by those with n; false if it cannot be written so.
func (p polynomials) lower(n, q int, c []int) ([]int, bool) {
	parts := p.parts(n, q, c)
	// If q divides n/q, the roots of the parts are independent over z(n/q), so that a number that can be written with it has no part but the first. Otherwise they are all the roots of the order q and 1: these add up to 0, and obey no other linear relation, so that all parts but the first are the same.
	common := make([]int, len(parts[0]))
	if n/q%q != 0 {
		common = parts[1]
	}
	for _, part := range parts[1:] {
		if !slices.Equal(part, common) {
			return nil, false
		}
	}
	l := make([]int, len(common))
	for i, x := range parts[0] {
		l[i] = x - common[i]
	}
	return l, true
}

// parts writes a number, the sum of c[i]*z(n)^i, as the sum of q parts, each of them a number of z(n/q), given by its coefficients, times a power of z(n): the part j is times the power j if q divides n/q, otherwise times a root of unity whose order is q (1 for the part 0).
func (p polynomials) parts(n, q int, c []int) [][]int {
	m := n / q
	// The part j is times z(n)^(j*step). As step is 1 modulo q, q divides what an exponent leaves beside this one. If q does not divide m, step is a multiple of m, too, so that the order of z(n)^step is q.
	step := 1
	if m%q != 0 {
		for step = m; step%q != 1; step += m {
		}
	}
	l := make([][]int, q)
	for j := range l {
		l[j] = make([]int, m)
	}
	for i, x := range c {
		j := i % q
		l[j][residue((i-j*step)/q, m)] = x // Each power has a place of its own.
	}
	for j, part := range l {
		l[j] = p.reduce(m, part)
	}
	return l
}
