package linear

import (
	"slices"

	"cayley/api"
	"cayley/matrix"
)

// Kernel returns the rows that are mapped to zero.
func Kernel(a api.Matrix) ([][]int, api.Errno) {
	if e := matrix.Check(a); e != api.OK {
		return nil, e
	}
	m, n := len(a.Rows), len(a.Rows[0])
	return eliminate(a.P, n+m, marked(a)).after(n), api.OK
}

// marked returns the rows of a matrix, each followed by its row of the identity: in a combination of these rows, the image of a row is followed by the row itself.
func marked(a api.Matrix) [][]int {
	var l [][]int
	for i, row := range a.Rows {
		n := len(row)
		l = append(l, longer(row, len(a.Rows)))
		l[i][n+i] = 1
	}
	return l
}

// Solve returns a row that is mapped to a given one.
func Solve(a api.Matrix, b []int) ([]int, api.Errno) {
	e := matrix.Check(a)
	if e == api.OK && len(b) != len(a.Rows[0]) {
		e = api.ErrType
	}
	if e != api.OK {
		return nil, e
	}
	// With a width of the columns alone, the rows in the span of those before them are left out, so that the solution is 0 at them.
	m, n := len(a.Rows), len(b)
	s := eliminate(a.P, n, marked(a))
	rest := s.reduce(longer(b, m))
	if !isZero(rest[:n]) {
		return nil, api.ErrNone
	}
	// The solution, which is mapped to b, was taken off zero.
	v := make([]int, m)
	s.subtract(v, 1, rest[n:])
	return v, api.OK
}

// Eigen returns the rows that are multiplied by a number.
func Eigen(a api.Matrix, x int) ([][]int, api.Errno) {
	if e := checkSquare(a); e != api.OK {
		return nil, e
	}
	one, _ := matrix.One(len(a.Rows), a.P)
	multiple, _ := matrix.Scale(one, -modulus(a.P).residue(x))
	difference, _ := matrix.Add(a, multiple)
	return Kernel(difference)
}

// checkSquare returns the error of a matrix that has to be square.
func checkSquare(a api.Matrix) api.Errno {
	e := matrix.Check(a)
	if e == api.OK && len(a.Rows) != len(a.Rows[0]) {
		e = api.ErrType
	}
	return e
}

// Values returns the numbers by which rows are multiplied.
func Values(a api.Matrix) ([]int, api.Errno) {
	poly, e := matrix.Poly(a)
	if e != api.OK {
		return nil, e
	}
	var l []int
	for x := range a.P {
		if value(poly, x, a.P) == 0 {
			l = append(l, x)
		}
	}
	return l, api.OK
}

// value returns the value of a polynomial at a residue.
func value(poly []int, x, p int) int {
	sum := 0
	for _, c := range slices.Backward(poly) {
		sum = (sum*x + c) % p
	}
	return sum
}
