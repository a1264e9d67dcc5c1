package matrix

import (
	"iter"
	"slices"

	"cayley/api"
)

// The greatest order.
const maxOrder = 10_000

// Pow returns a power.
func Pow(a api.Matrix, n int) (api.Matrix, api.Errno) {
	e := checkSquare(a)
	if e == api.OK && n < 0 {
		a, e = Inv(a)
		n = -n // The least int stays as it is, but as a uint that is its absolute value.
	}
	if e != api.OK {
		return api.Matrix{}, e
	}
	return power(a, uint(n)), api.OK
}

// power multiplies the squares that the binary digits of n say.
func power(a api.Matrix, n uint) api.Matrix {
	result := one(len(a.Rows), a.P)
	for square := range squares(a) {
		if n%2 == 1 {
			result = mul(result, square)
		}
		n /= 2
		if n == 0 {
			break
		}
	}
	return result
}

// squares yields a square matrix, its square, the square of that, and so on without an end.
func squares(a api.Matrix) iter.Seq[api.Matrix] {
	return func(yield func(square api.Matrix) bool) {
		for square := a; yield(square); {
			square = mul(square, square)
		}
	}
}

// Order returns the order.
func Order(a api.Matrix) (int, api.Errno) {
	if e := checkSquare(a); e != api.OK {
		return 0, e
	}
	if det(a) == 0 {
		return 0, api.ErrSingular
	}
	// To multiply all powers would take too long. Those that fix a row of the identity are the powers of the least one, the power k: the order of a is k times that of this one, with which the next row goes on.
	n := 1
	for _, row := range one(len(a.Rows), a.P).Rows {
		k := period(row, a, maxOrder/n)
		if k == 0 {
			return 0, api.ErrOver
		}
		n *= k
		a = power(a, uint(k))
	}
	return n, api.OK
}

// period returns the least k from 1 to a bound for which the power k of a fixes the row v, or 0 if there is none.
func period(v []int, a api.Matrix, bound int) int {
	image := v
	for k := 1; k <= bound; k++ {
		image = apply(image, a)
		if slices.Equal(image, v) {
			return k
		}
	}
	return 0
}
