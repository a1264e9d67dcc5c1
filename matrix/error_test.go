package matrix

import (
	"slices"
	"testing"

	"cayley/api"
)

// faulty are matrices with an error of Check, some with two faults.
func faulty() []api.Matrix {
	return []api.Matrix{
		{}, of(4, []int{1}), of(10_007, []int{1}), of(4), of(0, []int{-1}), five(), five(nil), five(nil, []int{7}), filled(65, 1, 5, 0), filled(1, 65, 5, 0), filled(65, 2, 5, 5), filled(65, 65, 6, 0),
		five([]int{5}), five([]int{-1}), five([]int{1, 2}, []int{3}), five([]int{1, 2}, []int{3, 5}), five([]int{1, 2, 3}, []int{1, 2, -1}),
	}
}

// single returns the functions of one matrix, with the multiple k and the power n, that return whether everything but the error is zero.
func single(k, n int) map[string]func(a api.Matrix) (bool, api.Errno) {
	zero := func(m api.Matrix, e api.Errno) (bool, api.Errno) { return m.P == 0 && len(m.Rows) == 0, e }
	return map[string]func(a api.Matrix) (bool, api.Errno){
		"Scale": func(a api.Matrix) (bool, api.Errno) { return zero(Scale(a, k)) },
		"Turn":  func(a api.Matrix) (bool, api.Errno) { return zero(Turn(a)) },
		"Apply": func(a api.Matrix) (bool, api.Errno) {
			l, e := Apply([]int{k, n, k}, a)
			return len(l) == 0, e
		},
		"Inv":   func(a api.Matrix) (bool, api.Errno) { return zero(Inv(a)) },
		"Pow":   func(a api.Matrix) (bool, api.Errno) { return zero(Pow(a, n)) },
		"Det":   func(a api.Matrix) (bool, api.Errno) { x, e := Det(a); return x == 0, e },
		"Trace": func(a api.Matrix) (bool, api.Errno) { x, e := Trace(a); return x == 0, e },
		"Poly":  func(a api.Matrix) (bool, api.Errno) { x, e := Poly(a); return len(x) == 0, e },
		"Order": func(a api.Matrix) (bool, api.Errno) { x, e := Order(a); return x == 0, e },
		"Perm":  func(a api.Matrix) (bool, api.Errno) { x, e := Perm(a); return len(x) == 0, e },
	}
}

// TestFaulty tests that all functions return the error of Check, before any other.
func TestFaulty(t *testing.T) {
	for _, a := range faulty() {
		wanted := Check(a)
		if wanted == api.OK {
			t.Fatalf("Check(%v) finds no fault", a)
		}
		for _, n := range []int{-1, 0, 1} {
			for name, f := range single(n, n) {
				if zero, e := f(a); !zero || e != wanted {
					t.Errorf("%s(%v) has the error %d, want %d", name, a, int(e), int(wanted))
				}
			}
		}
	}
}

// TestFaultyPairs tests that matrices are checked from left to right, before moduli and sizes are compared.
func TestFaultyPairs(t *testing.T) {
	good := []api.Matrix{five([]int{1}), of(7, []int{1, 2, 3}), filled(64, 64, 2, 1)}
	for name, f := range map[string]func(a, b api.Matrix) (api.Matrix, api.Errno){"Mul": Mul, "Add": Add} {
		for _, a := range faulty() {
			for _, b := range append(faulty(), good...) {
				m, e := f(a, b)
				wantError(t, name, m, e, Check(a))
			}
			for _, b := range good {
				m, e := f(b, a)
				wantError(t, name, m, e, Check(a))
			}
		}
	}
}

// TestPairs tests which sizes fit: ErrType for all others, and for different moduli.
func TestPairs(t *testing.T) {
	sizes := [][2]int{{1, 1}, {1, 2}, {2, 1}, {2, 2}, {2, 3}, {3, 2}, {1, 64}, {64, 1}, {64, 64}, {63, 64}, {64, 63}}
	for _, x := range sizes {
		for _, y := range sizes {
			for _, q := range []int{5, 3} {
				a, b := filled(x[0], x[1], 5, 2), filled(y[0], y[1], q, 2)
				m, e := Mul(a, b)
				if q != 5 || x[1] != y[0] {
					wantError(t, "Mul", m, e, api.ErrType)
				} else {
					want(t, "Mul", m, e, filled(x[0], y[1], 5, 4*x[1]%5))
				}
				m, e = Add(a, b)
				if q != 5 || x != y {
					wantError(t, "Add", m, e, api.ErrType)
				} else {
					want(t, "Add", m, e, filled(x[0], x[1], 5, 4))
				}
			}
		}
	}
}

// TestNotSquare tests which functions need square matrices, and that this error comes before those that follow.
func TestNotSquare(t *testing.T) {
	for _, x := range [][2]int{{1, 2}, {2, 1}, {2, 3}, {3, 2}, {1, 64}, {64, 1}, {63, 64}, {64, 63}} {
		for _, entry := range []int{0, 1, 4} {
			a := filled(x[0], x[1], 5, entry)
			for _, n := range []int{-2, -1, 0, 1, 2} {
				for name, f := range single(n, n) {
					if slices.Contains([]string{"Scale", "Turn", "Apply"}, name) {
						continue
					}
					if zero, e := f(a); !zero || e != api.ErrType {
						t.Errorf("%s of %d rows of %d entries has the error %d", name, x[0], x[1], int(e))
					}
				}
			}
		}
	}
}

// TestApplySizes tests P4.2: vectors of another length than the number of rows.
func TestApplySizes(t *testing.T) {
	for _, x := range [][2]int{{1, 1}, {1, 3}, {3, 1}, {3, 3}, {64, 1}, {1, 64}, {64, 64}} {
		a := filled(x[0], x[1], 5, 1)
		for _, n := range []int{0, 1, 2, 3, 4, 63, 64, 65, 1000} {
			l, e := Apply(slices.Repeat([]int{1}, n), a)
			if n != x[0] {
				wantList(t, "Apply", l, e, nil, api.ErrType)
			} else {
				wantList(t, "Apply", l, e, slices.Repeat([]int{n % 5}, x[1]), api.OK)
			}
		}
	}
	l, e := Apply(nil, five())
	wantList(t, "Apply", l, e, nil, api.ErrRange)
}

// TestMemory tests R4: arguments stay as they were, and what is written into a result changes neither them nor another result.
func TestMemory(t *testing.T) {
	full, diagonal := five([]int{0, 2, 1}, []int{3, 4, 0}, []int{1, 0, 0}), five([]int{1, 0, 0}, []int{0, 1, 0}, []int{0, 0, 1})
	for _, a := range []api.Matrix{full, diagonal, five([]int{1}), of(2, []int{1, 0}, []int{0, 1})} {
		before := copyOf(a)
		v := make([]int, len(a.Rows))
		v[0] = 1
		calls := map[string]func() (api.Matrix, api.Errno){
			"One":       func() (api.Matrix, api.Errno) { return One(3, 5) },
			"Mul":       func() (api.Matrix, api.Errno) { return Mul(a, a) },
			"Add":       func() (api.Matrix, api.Errno) { return Add(a, a) },
			"Scale 0":   func() (api.Matrix, api.Errno) { return Scale(a, 0) },
			"Scale 1":   func() (api.Matrix, api.Errno) { return Scale(a, 1) },
			"Turn":      func() (api.Matrix, api.Errno) { return Turn(a) },
			"Inv":       func() (api.Matrix, api.Errno) { return Inv(a) },
			"Pow 0":     func() (api.Matrix, api.Errno) { return Pow(a, 0) },
			"Pow 1":     func() (api.Matrix, api.Errno) { return Pow(a, 1) },
			"Pow 2":     func() (api.Matrix, api.Errno) { return Pow(a, 2) },
			"Pow -1":    func() (api.Matrix, api.Errno) { return Pow(a, -1) },
			"Apply":     func() (api.Matrix, api.Errno) { l, e := Apply(v, a); return of(a.P, l), e },
			"Poly":      func() (api.Matrix, api.Errno) { l, e := Poly(a); return of(a.P, l), e },
			"Perm or 0": func() (api.Matrix, api.Errno) { l, _ := Perm(a); return of(a.P, l), api.OK },
		}
		for name, f := range calls {
			result, e := f()
			kept := copyOf(result)
			want(t, name, result, e, kept)
			for i, row := range result.Rows {
				// A row that could grow into the next one would share memory with it.
				row = append(row[:len(row):cap(row)], -7)
				for j := range row {
					row[j] = -7
				}
				for k := i + 1; k < len(result.Rows); k++ {
					if !slices.Equal(result.Rows[k], kept.Rows[k]) {
						t.Fatalf("%s: the rows %d and %d share memory", name, i, k)
					}
				}
			}
			again, e := f()
			want(t, name, again, e, kept)
			want(t, name+": the argument", a, api.OK, before)
		}
		Det(a)
		Trace(a)
		Order(a)
		want(t, "the argument of Det, Trace and Order", a, api.OK, before)
		if v[0] != 1 || slices.ContainsFunc(v[1:], func(x int) bool { return x != 0 }) {
			t.Fatalf("Apply changes its vector to %v", v)
		}
	}
}
