package linear

import (
	"math"
	"math/rand"
	"slices"
	"testing"

	"cayley/api"
	"cayley/matrix"
)

// matrices calls f with small matrices: all of up to 2 rows of up to 2 entries modulo 2 and 3, and random ones of up to 4 rows.
func matrices(f func(a api.Matrix)) {
	lists(func(p, n int, l [][]int) {
		if len(l) > 0 && len(l) < 5 && count(len(l), p) <= 700 {
			f(of(p, l...))
		}
	})
}

// large calls f with random matrices of up to 64 rows of up to 64 entries, of all ranks, and with some others.
func large(f func(r *rand.Rand, a api.Matrix)) {
	r := rand.New(rand.NewSource(83))
	for _, p := range moduli {
		for _, x := range [][3]int{{1, 1, 1}, {1, 5, 1}, {5, 1, 1}, {6, 6, 6}, {6, 6, 5}, {7, 9, 4}, {20, 10, 8}, {1, 64, 1}, {64, 1, 1}, {64, 64, 63}, {64, 30, 20}, {10, 64, 7}} {
			f(r, of(p, random(r, x[0], x[1], x[2], p)...))
		}
		f(r, of(p, units(64)...))
		f(r, of(p, filled(64, 64, 0)...))
		f(r, of(p, filled(64, 64, p-1)...))
		f(r, of(p, append(units(64)[32:], units(64)[:32]...)...))
	}
}

// image returns v*a.
func image(v []int, a api.Matrix) []int {
	sum := make([]int, len(a.Rows[0]))
	for i, x := range v {
		add(sum, x, a.Rows[i], a.P)
	}
	return sum
}

// dependent reports, for each row, whether it is in the span of the rows before it.
func dependent(a api.Matrix) []bool {
	var l []bool
	rank := 0
	for i := range a.Rows {
		now := len(textbook(a.P, a.Rows[:i+1]))
		l = append(l, now == rank)
		rank = now
	}
	return l
}

// fits reports whether a row is 0 where P5.2 asks for it.
func fits(v []int, zeros []bool) bool {
	for i, x := range v {
		if zeros[i] && x != 0 {
			return false
		}
	}
	return len(v) == len(zeros)
}

// isBasisOf reports whether l is the basis of the rows of n entries for which f holds, by trying all of them.
func isBasisOf(l [][]int, n, p int, f func(v []int) bool) bool {
	in := span(p, n, l)
	for i, is := range in {
		if is != f(vector(i, n, p)) {
			return false
		}
	}
	return isEchelon(l, p)
}

// TestKernel tests P5.2: Kernel, by trying all rows.
func TestKernel(t *testing.T) {
	matrices(func(a api.Matrix) {
		b := must[[][]int](t)(Kernel(a))
		if !isBasisOf(b, len(a.Rows), a.P, func(v []int) bool { return isZero(image(v, a)) }) {
			t.Fatalf("Kernel(%v) = %v", a, b)
		}
	})
	// The rows stand for all rows that are mapped to zero if there are as many as the ranks say.
	large(func(_ *rand.Rand, a api.Matrix) {
		b := must[[][]int](t)(Kernel(a))
		if !isEchelon(b, a.P) || len(b) != len(a.Rows)-len(textbook(a.P, a.Rows)) {
			t.Fatalf("Kernel(%v) = %v", a, b)
		}
		for _, v := range b {
			if len(v) != len(a.Rows) || !isZero(image(v, a)) {
				t.Fatalf("Kernel(%v) has the row %v", a, v)
			}
		}
	})
}

// TestSolve tests P5.2: Solve for all right sides, against all rows with zeros at the right places.
func TestSolve(t *testing.T) {
	matrices(func(a api.Matrix) {
		m, n := len(a.Rows), len(a.Rows[0])
		zeros := dependent(a)
		solutions := make([][]int, count(n, a.P))
		for i := range count(m, a.P) {
			if v := vector(i, m, a.P); fits(v, zeros) {
				solutions[number(image(v, a), a.P)] = v
			}
		}
		for i, wanted := range solutions {
			v, e := Solve(a, vector(i, n, a.P))
			if wanted == nil {
				wantRow(t, "Solve", v, e, nil, api.ErrNone)
			} else {
				wantRow(t, "Solve", v, e, wanted, api.OK)
			}
		}
	})
}

// TestLargeSolve tests P5.2: Solve for many rows and columns, with right sides that are images, and others.
func TestLargeSolve(t *testing.T) {
	large(func(r *rand.Rand, a api.Matrix) {
		m, n, zeros := len(a.Rows), len(a.Rows[0]), dependent(a)
		rank := len(textbook(a.P, a.Rows))
		for range 3 {
			v := random(r, 1, m, 1, a.P)[0]
			b := image(v, a)
			s, e := Solve(a, b)
			if e != api.OK || !fits(s, zeros) || !slices.Equal(image(s, a), b) {
				t.Fatalf("Solve(%v; %v) = %v, error %d", a, b, s, int(e))
			}
			for i, is := range zeros {
				if is {
					v[i] = 0
				}
			}
			// There is one such row only: it comes back.
			s, e = Solve(a, image(v, a))
			wantRow(t, "Solve of an image", s, e, v, api.OK)
			b[r.Intn(n)]++
			s, e = Solve(a, b)
			if isIn := len(textbook(a.P, append(copyOf(a.Rows), b))) == rank; isIn != (e == api.OK) || !isIn && (e != api.ErrNone || len(s) > 0) {
				t.Fatalf("Solve(%v; %v) = %v, error %d", a, b, s, int(e))
			}
		}
	})
}

// TestRightSides tests P5.2: right sides that are any ints, and many solutions.
func TestRightSides(t *testing.T) {
	for _, p := range moduli {
		one := of(p, units(2)...)
		for _, x := range ends(p) {
			v, e := Solve(one, []int{x, -1})
			wantRow(t, "Solve(one; an end, -1)", v, e, []int{mod(x, p), p - 1}, api.OK)
			v, e = Solve(of(p, []int{0}, []int{1}, []int{1}, []int{p - 1}), []int{x})
			wantRow(t, "Solve with many solutions", v, e, []int{0, mod(x, p), 0, 0}, api.OK)
			v, e = Solve(of(p, []int{0, 1}, []int{0, p - 1}), []int{x, x})
			if x%p == 0 {
				wantRow(t, "Solve(0 1, 0 -1; zeros)", v, e, []int{0, 0}, api.OK)
			} else {
				wantRow(t, "Solve(0 1, 0 -1; others)", v, e, nil, api.ErrNone)
			}
		}
		v, e := Solve(of(p, filled(64, 64, 0)...), filled(1, 64, p)[0])
		wantRow(t, "Solve(zero; zero)", v, e, make([]int, 64), api.OK)
		v, e = Solve(of(p, filled(64, 64, 1)...), filled(1, 64, -1)[0])
		wantRow(t, "Solve of 64 rows that are the same", v, e, append([]int{p - 1}, make([]int, 63)...), api.OK)
	}
}

// ends returns ints around 0, around multiples of p, and at both ends.
func ends(p int) []int {
	return []int{math.MinInt, math.MinInt + 1, -1 << 32, -p - 1, -p, -p + 1, -1, 0, 1, p - 1, p, p + 1, 1 << 32, math.MaxInt - 1, math.MaxInt}
}

// isEigen returns a function that reports whether v*a is x*v.
func isEigen(a api.Matrix, x int) func(v []int) bool {
	return func(v []int) bool {
		w := image(v, a)
		add(w, -mod(x, a.P), v, a.P)
		return isZero(w)
	}
}

// TestEigen tests P5.3: Eigen and Values of small matrices, by trying all rows.
func TestEigen(t *testing.T) {
	matrices(func(a api.Matrix) {
		n := len(a.Rows)
		if n != len(a.Rows[0]) {
			return
		}
		var wanted []int
		for x := range a.P {
			b := must[[][]int](t)(Eigen(a, x))
			if !isBasisOf(b, n, a.P, isEigen(a, x)) {
				t.Fatalf("Eigen(%v, %d) = %v", a, x, b)
			}
			if len(b) > 0 {
				wanted = append(wanted, x)
			}
		}
		l, e := Values(a)
		wantRow(t, "Values", l, e, wanted, api.OK)
	})
}

// TestAnyValue tests P5.3: x may be any int, and stands for its residue.
func TestAnyValue(t *testing.T) {
	for _, p := range moduli {
		for _, x := range ends(p) {
			k := mod(x, p)
			a := of(p, []int{k, 0, 1}, []int{0, (k + 1) % p, 0}, []int{0, 0, k})
			b, e := Eigen(a, x)
			want(t, "Eigen(a; x)", b, e, rows([]int{0, 0, 1}), api.OK)
			b, e = Eigen(a, k)
			want(t, "Eigen(a; the residue of x)", b, e, rows([]int{0, 0, 1}), api.OK)
			b, e = Eigen(a, k+1)
			want(t, "Eigen(a; x + 1)", b, e, rows([]int{0, 1, 0}), api.OK)
			if p > 2 {
				b, e = Eigen(a, k-1)
				want(t, "Eigen(a; x - 1)", b, e, nil, api.OK)
			}
		}
	}
}

// conjugate returns a matrix with the same values as one with these on the diagonal and some entries above it.
func conjugate(r *rand.Rand, values []int, p int) api.Matrix {
	n := len(values)
	a := of(p, filled(n, n, 0)...)
	for i, x := range values {
		a.Rows[i][i] = x
		for j := i + 1; j < n; j++ {
			a.Rows[i][j] = r.Intn(2) * r.Intn(p)
		}
	}
	for range 3 * n {
		// A row is added to another, and a column taken off another: this multiplies with a matrix and its inverse.
		i, j, k := r.Intn(n), r.Intn(n), r.Intn(p)
		if i == j {
			continue
		}
		add(a.Rows[i], k, a.Rows[j], p)
		for _, row := range a.Rows {
			row[j] = mod(row[j]-k*row[i], p)
		}
	}
	return a
}

// TestLargeValues tests P5.3: Values and Eigen of matrices of up to 64 rows whose values are known.
func TestLargeValues(t *testing.T) {
	r := rand.New(rand.NewSource(89))
	for _, p := range moduli {
		for _, n := range []int{1, 2, 3, 7, 16, 64} {
			values := make([]int, n)
			for i := range values {
				values[i] = r.Intn(p)
			}
			a := conjugate(r, values, p)
			slices.Sort(values)
			values = slices.Compact(values)
			l, e := Values(a)
			wantRow(t, "Values", l, e, values, api.OK)
			for _, x := range append(values[:min(len(values), 5)], r.Intn(p)) {
				b, e := Eigen(a, x)
				difference := copyOf(a.Rows)
				for i, row := range difference {
					row[i] -= x
				}
				if e != api.OK || !isEchelon(b, p) || len(b) != n-len(textbook(p, difference)) {
					t.Fatalf("Eigen(%v, %d) = %v, error %d", a, x, b, int(e))
				}
				for _, v := range b {
					if len(v) != n || !isEigen(a, x)(v) {
						t.Fatalf("Eigen(%v, %d) has the row %v", a, x, v)
					}
				}
			}
		}
	}
}

// TestNumbersOfValues tests P5.3: matrices with no value, with one, and with as many as rows.
func TestNumbersOfValues(t *testing.T) {
	// No residue is a root: x^2 + x is never 1 modulo 2, and x^2 is never 2 modulo 3 or 5.
	for _, a := range []api.Matrix{of(2, []int{0, 1}, []int{1, 1}), of(3, []int{0, 1}, []int{2, 0}), of(5, []int{0, 1}, []int{2, 0})} {
		l, e := Values(a)
		wantRow(t, "Values", l, e, nil, api.OK)
		for x := -10; x < 10; x++ {
			b, e := Eigen(a, x)
			want(t, "Eigen", b, e, nil, api.OK)
		}
	}
	for _, p := range moduli {
		for _, n := range []int{1, 2, 64} {
			for _, x := range []int{0, 1, p - 1} {
				a := filled(n, n, 0)
				diagonal, shift := of(p, a...), of(p, copyOf(a)...)
				for i := range n {
					diagonal.Rows[i][i], shift.Rows[i][i] = x, x
					if i > 0 {
						shift.Rows[i][i-1] = 1
					}
				}
				for _, b := range []api.Matrix{diagonal, shift} {
					l, e := Values(b)
					wantRow(t, "Values", l, e, []int{x}, api.OK)
				}
				b, e := Eigen(diagonal, x)
				want(t, "Eigen of a multiple of one", b, e, units(n), api.OK)
				b, e = Eigen(shift, x)
				want(t, "Eigen of a shift", b, e, units(n)[:1], api.OK)
			}
			if n > p {
				continue
			}
			a, wanted := of(p, filled(n, n, 0)...), make([]int, n)
			for i := range n {
				wanted[i] = p - n + i
				a.Rows[i][i] = p - 1 - i
			}
			l, e := Values(a)
			wantRow(t, "Values", l, e, wanted, api.OK)
			for i := range n {
				b, e := Eigen(a, -1-i)
				want(t, "Eigen", b, e, units(n)[i:i+1], api.OK)
			}
		}
	}
	// All residues modulo 61 but 0 are values of a cycle of 60 rows, since their power 60 is 1.
	cycle := of(61, append(units(60)[1:], units(60)[0])...)
	l, e := Values(cycle)
	if e != api.OK || len(l) != 60 || l[0] != 1 || l[59] != 60 {
		t.Errorf("Values of a cycle = %v, error %d", l, int(e))
	}
}

// TestFewRows tests matrices of one row, of one column and of 64 of them.
func TestFewRows(t *testing.T) {
	for _, p := range []int{2, 9973} {
		b, e := Kernel(of(p, []int{0}))
		want(t, "Kernel(0)", b, e, units(1), api.OK)
		b, e = Kernel(of(p, []int{p - 1}))
		want(t, "Kernel(-1)", b, e, nil, api.OK)
		b, e = Kernel(of(p, filled(1, 64, 1)...))
		want(t, "Kernel of a row", b, e, nil, api.OK)
		column := of(p, filled(64, 1, 1)...)
		wanted := units(64)[:63]
		for _, row := range wanted {
			row[63] = p - 1
		}
		b, e = Kernel(column)
		want(t, "Kernel of a column", b, e, wanted, api.OK)
		b, e = Kernel(of(p, units(64)...))
		want(t, "Kernel(one)", b, e, nil, api.OK)
		b, e = Kernel(of(p, filled(64, 64, 0)...))
		want(t, "Kernel(zero)", b, e, units(64), api.OK)
		v, e := Solve(column, []int{7})
		wantRow(t, "Solve of a column", v, e, append([]int{7 % p}, make([]int, 63)...), api.OK)
		v, e = Solve(of(p, filled(1, 64, 1)...), filled(1, 64, 7)[0])
		wantRow(t, "Solve of a row", v, e, []int{7 % p}, api.OK)
		l, e := Values(of(p, []int{p - 1}))
		wantRow(t, "Values(-1)", l, e, []int{p - 1}, api.OK)
	}
	l, e := Values(of(2, filled(64, 64, 1)...))
	wantRow(t, "Values of ones", l, e, []int{0}, api.OK)
	l, e = Values(of(3, filled(64, 64, 1)...))
	wantRow(t, "Values of ones", l, e, []int{0, 1}, api.OK)
}

// TestCheckMatrix tests that matrices are valid up to the bounds of matrix.Check.
func TestCheckMatrix(t *testing.T) {
	for _, p := range moduli {
		for _, x := range [][2]int{{1, 1}, {1, 64}, {64, 1}, {64, 64}} {
			a := of(p, filled(x[0], x[1], p-1)...)
			for name, f := range ofMatrix(0, x[1]) {
				wanted := matrix.Check(a)
				if (name == "Eigen" || name == "Values") && x[0] != x[1] {
					wanted = api.ErrType
				}
				if _, e := f(a); e != wanted {
					t.Errorf("%s of %d rows of %d entries modulo %d has the error %d", name, x[0], x[1], p, int(e))
				}
			}
		}
	}
}
