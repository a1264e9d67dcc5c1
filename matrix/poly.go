package matrix

import (
	"slices"

	"cayley/api"
)

// Poly returns the characteristic polynomial.
func Poly(a api.Matrix) ([]int, api.Errno) {
	if e := checkSquare(a); e != api.OK {
		return nil, e
	}
	// From the polynomial of the first k rows and columns comes that of one more by multiplication with a series in x and 1/x; in the product all negative powers cancel. Nothing is divided, so that no entry and no modulus is an exception.
	l := []int{1}
	for k := range a.Rows {
		l = product(l, series(a, k), a.P)
	}
	slices.Reverse(l)
	return l, api.OK
}

// series returns the first k+2 coefficients, the greatest power first, of x - d - r*c/x - r*b*c/x^2 - r*b*b*c/x^3 - .., where b is the matrix of the first k rows and columns of a, and r, c and d are what follows below it, beside it and in the corner. It is the quotient of the characteristic polynomials with and without that row and column.
func series(a api.Matrix, k int) []int {
	b := api.Matrix{P: a.P}
	for _, row := range a.Rows[:k] {
		b.Rows = append(b.Rows, row[:k])
	}
	r, c, d := a.Rows[k][:k], column(a, k)[:k], a.Rows[k][k]
	l := []int{1, (a.P - d) % a.P}
	for range k {
		l = append(l, (a.P-dot(r, c, a.P))%a.P)
		r = apply(r, b)
	}
	return l
}

// dot returns the sum of the products of the entries of two rows.
func dot(v, w []int, p int) int {
	sum := 0
	for _, x := range combine(v, w, func(x, y int) int { return x * y % p }) {
		sum += x
	}
	return sum % p
}

// product returns the product of two lists of coefficients, the greatest power first, as far as the longer list l goes.
func product(short, l []int, p int) []int {
	sum := make([]int, len(l))
	for i, x := range short {
		copy(sum[i:], combine(sum[i:], l[:len(l)-i], plus(x, p)))
	}
	return sum
}
