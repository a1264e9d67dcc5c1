package matrix

import (
	"slices"

	"cayley/api"
	"cayley/prime"
)

// Det returns the determinant.
func Det(a api.Matrix) (int, api.Errno) {
	if e := checkSquare(a); e != api.OK {
		return 0, e
	}
	return det(a), api.OK
}

// det is Det for a square matrix.
func det(a api.Matrix) int {
	s := elimination{p: a.P, rows: slices.Clone(a.Rows)}
	return s.run()
}

// Inv returns the inverse.
func Inv(a api.Matrix) (api.Matrix, api.Errno) {
	if e := checkSquare(a); e != api.OK {
		return api.Matrix{}, e
	}
	n := len(a.Rows)
	beside := func(x, y []int) []int { return slices.Concat(x, y) }
	s := elimination{p: a.P, rows: combine(a.Rows, one(n, a.P).Rows, beside)}
	if s.run() == 0 {
		return api.Matrix{}, api.ErrSingular
	}
	rows := make([][]int, n)
	for i, row := range s.rows {
		rows[i] = slices.Clone(row[n:])
	}
	return api.Matrix{P: a.P, Rows: rows}, api.OK
}

// elimination turns a square matrix into the identity; the columns beside it, if there are more than rows, go through the same steps. It replaces rows, but changes none, so that they may be those of an argument.
type elimination struct {
	p    int
	rows [][]int
	odd  bool // whether rows were exchanged an odd number of times
}

// run returns the determinant of the matrix. If that is 0, it ends at the first column without a pivot.
func (s *elimination) run() (det int) {
	// The product of the pivots is the determinant but for the sign, which is known in the end.
	defer func() {
		if s.odd {
			det = (s.p - det) % s.p
		}
	}()
	det = 1
	for i := range s.rows {
		if !s.exchange(i) {
			return 0
		}
		det = det * s.rows[i][i] % s.p
		s.divide(i)
		s.clear(i)
	}
	return det
}

// exchange brings a row with a pivot for the column i to the place i; it reports whether there is one.
func (s *elimination) exchange(i int) bool {
	k := slices.IndexFunc(s.rows[i:], func(row []int) bool { return row[i] != 0 })
	if k < 0 {
		return false
	}
	if k > 0 {
		s.rows[i], s.rows[i+k] = s.rows[i+k], s.rows[i]
		s.odd = !s.odd
	}
	return true
}

// divide divides the row i by its pivot.
func (s *elimination) divide(i int) {
	k, _ := prime.Inv(s.rows[i][i], s.p)
	s.rows[i] = times(k, s.rows[i], s.p)
}

// clear takes multiples of the row i, whose pivot is 1, off the others, whose entries in the column i become 0.
func (s *elimination) clear(i int) {
	for j, row := range s.rows {
		if j != i && row[i] != 0 {
			s.rows[j] = combine(row, s.rows[i], plus(s.p-row[i], s.p))
		}
	}
}
