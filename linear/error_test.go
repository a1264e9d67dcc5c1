package linear

import (
	"math"
	"slices"
	"testing"

	"cayley/api"
	"cayley/matrix"
)

// badModuli are no moduli.
func badModuli() []int {
	return []int{math.MinInt, math.MinInt + 1, -1 << 32, -9973, -5, -3, -2, -1, 0, 1, 4, 6, 9, 15, 9409, 9971, 9972, 9974, 9999, 10_000, 10_001, 10_007, 999_983, 1_000_003, 1 << 32, 1<<32 + 5, math.MaxInt - 1, math.MaxInt}
}

// badSizes are no numbers of entries.
func badSizes() []int {
	return []int{math.MinInt, math.MinInt + 1, -1 << 32, -64, -2, -1, 0, 65, 66, 128, 200, 1 << 32, 1<<32 + 1, math.MaxInt - 1, math.MaxInt}
}

// single returns the functions of one list, that return whether everything but the error is zero; v is the row of In.
func single(v []int) map[string]func(p, n int, l [][]int) (bool, api.Errno) {
	return map[string]func(p, n int, l [][]int) (bool, api.Errno){
		"Basis": func(p, n int, l [][]int) (bool, api.Errno) { b, e := Basis(p, n, l); return len(b) == 0, e },
		"Rank":  func(p, n int, l [][]int) (bool, api.Errno) { k, e := Rank(p, n, l); return k == 0, e },
		"In":    func(p, n int, l [][]int) (bool, api.Errno) { is, e := In(p, n, l, v); return !is, e },
	}
}

// double is single for the functions of two lists.
func double() map[string]func(p, n int, a, b [][]int) (bool, api.Errno) {
	return map[string]func(p, n int, a, b [][]int) (bool, api.Errno){
		"Sum":  func(p, n int, a, b [][]int) (bool, api.Errno) { l, e := Sum(p, n, a, b); return len(l) == 0, e },
		"Meet": func(p, n int, a, b [][]int) (bool, api.Errno) { l, e := Meet(p, n, a, b); return len(l) == 0, e },
	}
}

// ofMatrix is single for the functions of a matrix, with the number x for Eigen and a right side of n entries for Solve.
func ofMatrix(x, n int) map[string]func(a api.Matrix) (bool, api.Errno) {
	return map[string]func(a api.Matrix) (bool, api.Errno){
		"Kernel": func(a api.Matrix) (bool, api.Errno) { l, e := Kernel(a); return len(l) == 0, e },
		"Solve":  func(a api.Matrix) (bool, api.Errno) { v, e := Solve(a, make([]int, max(n, 0))); return len(v) == 0, e },
		"Eigen":  func(a api.Matrix) (bool, api.Errno) { l, e := Eigen(a, x); return len(l) == 0, e },
		"Values": func(a api.Matrix) (bool, api.Errno) { l, e := Values(a); return len(l) == 0, e },
	}
}

// wantFault calls all functions of lists with a fault, alone and beside lists without one, and reports another error than the expected one.
func wantFault(t *testing.T, p, n int, l [][]int, wanted api.Errno) {
	t.Helper()
	size := 1
	if n > 0 && n <= 64 {
		size = n
	}
	for _, v := range [][]int{make([]int, size), nil, make([]int, size+1)} {
		for name, f := range single(v) {
			if zero, e := f(p, n, l); e != wanted || !zero {
				t.Fatalf("%s(%d, %d, %d rows) with a row of %d entries has the error %d, want %d", name, p, n, len(l), len(v), int(e), int(wanted))
			}
		}
	}
	for name, f := range double() {
		for _, good := range [][][]int{nil, filled(1, size, 1), filled(200, size, 0)} {
			if zero, e := f(p, n, l, good); e != wanted || !zero {
				t.Fatalf("%s(%d, %d, %d rows, ..) has the error %d, want %d", name, p, n, len(l), int(e), int(wanted))
			}
			if zero, e := f(p, n, good, l); e != wanted || !zero {
				t.Fatalf("%s(%d, %d, .., %d rows) has the error %d, want %d", name, p, n, len(l), int(e), int(wanted))
			}
		}
	}
}

// wantNoFault calls all functions of lists, and reports an error.
func wantNoFault(t *testing.T, p, n int, l [][]int) {
	t.Helper()
	for name, f := range single(make([]int, n)) {
		if _, e := f(p, n, l); e != api.OK {
			t.Fatalf("%s(%d, %d, %d rows) has the error %d", name, p, n, len(l), int(e))
		}
	}
	for name, f := range double() {
		if _, e := f(p, n, l, l); e != api.OK {
			t.Fatalf("%s(%d, %d, %d rows) has the error %d", name, p, n, len(l), int(e))
		}
	}
}

// TestModuli tests which moduli there are, and that no other error comes before this one.
func TestModuli(t *testing.T) {
	for _, p := range badModuli() {
		for _, n := range append(badSizes(), 1, 2, 64) {
			for _, l := range [][][]int{nil, rows([]int{1}), rows(nil), filled(201, 1, 0)} {
				wantFault(t, p, n, l, api.ErrForm)
			}
		}
	}
	for p := 2; p < 10_100; p++ {
		b, e := Basis(p, 1, rows([]int{p - 1}))
		if matrix.Check(of(p, []int{0})) == api.OK {
			want(t, "Basis", b, e, units(1), api.OK)
		} else {
			want(t, "Basis", b, e, nil, api.ErrForm)
		}
	}
}

// TestSizes tests the numbers of entries, and that only the modulus is looked at before.
func TestSizes(t *testing.T) {
	for _, p := range []int{2, 3, 9973} {
		for _, n := range badSizes() {
			size := min(max(n, 0), 200)
			for _, l := range [][][]int{nil, rows(nil), filled(1, size, 1), filled(1, size+1, 1), filled(201, size, 0)} {
				wantFault(t, p, n, l, api.ErrRange)
			}
		}
		for n := 1; n <= 64; n++ {
			wantNoFault(t, p, n, nil)
			wantNoFault(t, p, n, filled(2, n, 1))
		}
	}
}

// TestNumbersOfRows tests how many rows a list may have, and that this comes before their lengths.
func TestNumbersOfRows(t *testing.T) {
	for _, p := range []int{2, 9973} {
		for _, n := range []int{1, 2, 64} {
			for _, m := range []int{0, 1, 2, 64, 65, 199, 200} {
				wantNoFault(t, p, n, filled(m, n, 1))
			}
			for _, m := range []int{201, 202, 1000} {
				for _, size := range []int{n, n - 1, n + 1, 0} {
					wantFault(t, p, n, filled(m, size, 1), api.ErrLong)
				}
				wantFault(t, p, n, append(rows(nil), filled(m-1, n, 1)...), api.ErrLong)
			}
		}
	}
}

// TestLengths tests the lengths of rows, at all places.
func TestLengths(t *testing.T) {
	for _, p := range []int{2, 9973} {
		for _, n := range []int{1, 2, 5, 63, 64} {
			for _, size := range []int{0, 1, n - 1, n + 1, 2 * n, 65, 1000} {
				if size == n {
					continue
				}
				for _, m := range []int{1, 2, 3, 200} {
					for _, i := range []int{0, m / 2, m - 1} {
						l := filled(m, n, 1)
						l[i] = make([]int, size)
						wantFault(t, p, n, l, api.ErrType)
					}
				}
			}
		}
	}
}

// TestTwoLists tests that of two lists with faults the left one is looked at first.
func TestTwoLists(t *testing.T) {
	faults := []struct {
		l [][]int
		e api.Errno
	}{{filled(201, 3, 0), api.ErrLong}, {filled(201, 2, 0), api.ErrLong}, {rows(nil), api.ErrType}, {filled(200, 4, 0), api.ErrType}, {rows([]int{0, 0, 0}, []int{0, 0}), api.ErrType}}
	for name, f := range double() {
		for _, x := range faults {
			for _, y := range faults {
				if zero, e := f(5, 3, x.l, y.l); e != x.e || !zero {
					t.Errorf("%s of %d rows and %d rows has the error %d, want %d", name, len(x.l), len(y.l), int(e), int(x.e))
				}
				if _, e := f(6, 3, x.l, y.l); e != api.ErrForm {
					t.Errorf("%s modulo 6 has the error %d", name, int(e))
				}
				if _, e := f(5, 65, x.l, y.l); e != api.ErrRange {
					t.Errorf("%s with n 65 has the error %d", name, int(e))
				}
			}
		}
	}
}

// TestRowOfIn tests the length of the row of In.
func TestRowOfIn(t *testing.T) {
	for _, n := range []int{1, 2, 63, 64} {
		for _, l := range [][][]int{nil, filled(1, n, 1), filled(200, n, 0)} {
			for _, size := range []int{0, n - 1, n + 1, 2 * n, 64, 65, 1000} {
				if size == n {
					continue
				}
				is, e := In(5, n, l, make([]int, size))
				wantBool(t, "In", is, e, false, api.ErrType)
			}
			is, e := In(5, n, l, make([]int, n))
			wantBool(t, "In", is, e, true, api.OK)
		}
	}
}

// faulty are matrices with an error of matrix.Check, some with two faults.
func faulty() []api.Matrix {
	l := []api.Matrix{
		{}, of(4), of(0, []int{-1}), five(), five(nil), five(nil, []int{7}), five([]int{1, 2}, nil), of(5, filled(65, 1, 0)...), of(5, filled(1, 65, 0)...), of(5, filled(65, 2, 5)...), of(5, filled(65, 65, 0)...), of(6, filled(65, 65, 0)...),
		five([]int{5}), five([]int{-1}), five([]int{math.MinInt}), five([]int{math.MaxInt}), five([]int{1, 2}, []int{3}), five([]int{1, 2}, []int{3, 5}), five([]int{1, 2, 3}, []int{1, 2, -1}), of(9973, []int{0, 9973}, []int{0, 0}), of(2, []int{0, 2}),
	}
	for _, p := range badModuli() {
		l = append(l, of(p, []int{1}), of(p, []int{1, 0}), of(p, []int{1, 0}, []int{1, 1}))
	}
	return l
}

// TestFaultyMatrices tests that all functions return the error of matrix.Check, before any other.
func TestFaultyMatrices(t *testing.T) {
	for _, a := range faulty() {
		wanted := matrix.Check(a)
		if wanted == api.OK {
			t.Fatalf("matrix.Check(%v) finds no fault", a)
		}
		for n := range 4 {
			for name, f := range ofMatrix(n, n) {
				if zero, e := f(a); !zero || e != wanted {
					t.Errorf("%s(%v) has the error %d, want %d", name, a, int(e), int(wanted))
				}
			}
		}
	}
}

// TestNotSquare tests which functions need square matrices.
func TestNotSquare(t *testing.T) {
	for _, x := range [][2]int{{1, 2}, {2, 1}, {2, 3}, {3, 2}, {1, 64}, {64, 1}, {63, 64}, {64, 63}} {
		for _, entry := range []int{0, 1, 4} {
			a := of(5, filled(x[0], x[1], entry)...)
			for _, number := range []int{math.MinInt, 0, 1, math.MaxInt} {
				for name, f := range ofMatrix(number, x[1]) {
					wanted := api.ErrType
					if name == "Kernel" || name == "Solve" {
						wanted = api.OK
					}
					if zero, e := f(a); e != wanted || e != api.OK && !zero {
						t.Errorf("%s of %d rows of %d entries has the error %d", name, x[0], x[1], int(e))
					}
				}
			}
		}
	}
}

// TestRightSideOfSolve tests the length of the right side of Solve.
func TestRightSideOfSolve(t *testing.T) {
	for _, x := range [][2]int{{1, 1}, {1, 3}, {3, 1}, {3, 3}, {2, 64}, {64, 2}, {64, 64}} {
		a := of(5, filled(x[0], x[1], 1)...)
		for _, n := range []int{0, 1, 2, 3, 4, 63, 64, 65, 67, 128, 1000} {
			v, e := Solve(a, slices.Repeat([]int{1}, n))
			if n != x[1] {
				wantRow(t, "Solve", v, e, nil, api.ErrType)
			} else {
				wantRow(t, "Solve", v, e, append([]int{1}, make([]int, x[0]-1)...), api.OK)
			}
		}
	}
}

// TestMemory tests R4: arguments stay as they were, and what is written into a result changes neither them nor another result.
func TestMemory(t *testing.T) {
	echelon := rows([]int{1, 0, 2}, []int{0, 1, 3})
	for _, l := range [][][]int{echelon, units(3), rows([]int{2, 4, 1}, []int{1, 2, 0}, []int{-7, 5, 9}), rows([]int{0, 0, 0}, []int{0, 0, 1}), filled(3, 3, 0)} {
		v := []int{6, 5, -7}
		list, other, row := copyOf(l), copyOf(echelon), slices.Clone(v)
		a := of(5, units(3)...)
		if matrix.Check(of(5, l...)) == api.OK && len(l) == 3 {
			a = of(5, l...)
		}
		before := copyOf(a.Rows)
		one := func(v []int, e api.Errno) ([][]int, api.Errno) { return rows(v), e }
		calls := map[string]func() ([][]int, api.Errno){
			"Basis":   func() ([][]int, api.Errno) { return Basis(5, 3, l) },
			"Sum":     func() ([][]int, api.Errno) { return Sum(5, 3, l, echelon) },
			"Sum 0":   func() ([][]int, api.Errno) { return Sum(5, 3, nil, l) },
			"Meet":    func() ([][]int, api.Errno) { return Meet(5, 3, l, echelon) },
			"Meet 1":  func() ([][]int, api.Errno) { return Meet(5, 3, l, l) },
			"Kernel":  func() ([][]int, api.Errno) { return Kernel(a) },
			"Solve":   func() ([][]int, api.Errno) { return one(Solve(a, slices.Clone(a.Rows[2]))) },
			"Solve v": func() ([][]int, api.Errno) { return one(Solve(of(5, units(3)...), v)) },
			"Eigen":   func() ([][]int, api.Errno) { return Eigen(a, 1) },
			"Values":  func() ([][]int, api.Errno) { return one(Values(a)) },
		}
		for name, f := range calls {
			result, e := f()
			kept := copyOf(result)
			want(t, name, result, e, kept, api.OK)
			spoil(t, name, result)
			again, e := f()
			want(t, name, again, e, kept, api.OK)
		}
		Rank(5, 3, l)
		In(5, 3, l, v)
		want(t, "the list", l, api.OK, list, api.OK)
		want(t, "the other list", echelon, api.OK, other, api.OK)
		want(t, "the matrix", a.Rows, api.OK, before, api.OK)
		wantRow(t, "the row", v, api.OK, row, api.OK)
	}
}

// spoil writes into all rows of a result, as far as they can grow, and reports rows that share memory.
func spoil(t *testing.T, name string, result [][]int) {
	kept := copyOf(result)
	for i, row := range result {
		row = row[:cap(row)]
		for j := range row {
			row[j] = -7
		}
		if !same(result[i+1:], kept[i+1:]) {
			t.Fatalf("%s: the row %d shares memory with others", name, i)
		}
	}
}

// TestPieces tests R4: what stands behind the rows of arguments in their memory stays as it was, too.
func TestPieces(t *testing.T) {
	array := []int{1, 2, 3, 4, 0, 1, 2, 2, 4, 3, 0, 1, 9, 9, 9, 9, 9, 9, 9, 9}
	before := slices.Clone(array)
	pieces := rows(array[:3], array[3:6], array[6:9])
	first, second, third := slices.Clone(array[:3]), slices.Clone(array[3:6]), slices.Clone(array[6:9])
	wanted := textbook(5, rows(first, second, third))
	a, v := of(5, pieces...), array[9:12]
	for _, f := range []func() ([][]int, api.Errno){
		func() ([][]int, api.Errno) { return Basis(5, 3, pieces) },
		func() ([][]int, api.Errno) { return Sum(5, 3, pieces, pieces[1:]) },
		func() ([][]int, api.Errno) { return Sum(5, 3, pieces[:1], pieces) },
		func() ([][]int, api.Errno) { return Meet(5, 3, pieces, pieces) },
		func() ([][]int, api.Errno) { return Meet(5, 3, slices.Concat(pieces, rows(v)), pieces) },
	} {
		b, e := f()
		want(t, "a basis of pieces", b, e, wanted, api.OK)
	}
	In(5, 3, pieces, v)
	Rank(5, 3, pieces)
	Kernel(a)
	Eigen(a, 2)
	Values(a)
	if s, e := Solve(a, v); e != api.OK || !slices.Equal(image(s, a), v) {
		t.Errorf("Solve = %v, error %d", s, int(e))
	}
	if _, e := Meet(5, 3, pieces[:2], pieces[1:]); e != api.OK {
		t.Errorf("Meet has the error %d", int(e))
	}
	wantRow(t, "the array", array, api.OK, before, api.OK)
}
