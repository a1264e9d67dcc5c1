package matrix

import (
	"math"
	"math/rand"
	"slices"
	"testing"

	"cayley/api"
)

// expand returns the determinant by expansion along the first row, for few rows.
func expand(a api.Matrix) int {
	if len(a.Rows) == 0 {
		return 1
	}
	sum := 0
	for j, x := range a.Rows[0] {
		minor := api.Matrix{P: a.P}
		for _, row := range a.Rows[1:] {
			minor.Rows = append(minor.Rows, slices.Delete(slices.Clone(row), j, j+1))
		}
		if j%2 == 1 {
			x = a.P - x
		}
		sum += x * expand(minor)
	}
	return sum % a.P
}

// TestDet tests P4.4: determinants, by expansion; those of many rows by their factors in TestDetMany.
func TestDet(t *testing.T) {
	squareSamples(func(a api.Matrix) {
		if len(a.Rows) <= 6 {
			n, e := Det(a)
			wantNumber(t, "Det", n, e, expand(a), api.OK)
		}
	})
	every(3, 3, func(a api.Matrix) {
		n, e := Det(a)
		wantNumber(t, "Det", n, e, expand(a), api.OK)
	})
}

// sign returns the sign of a permutation.
func sign(images []int) int {
	s := 1
	for i, x := range images {
		for _, y := range images[:i] {
			if y > x {
				s = -s
			}
		}
	}
	return s
}

// shuffled returns the matrix of a random permutation times a diagonal one, and its determinant: there is one entry in each row and column, so that the diagonal is mostly 0.
func shuffled(r *rand.Rand, n, p int) (api.Matrix, int) {
	a, images, d := filled(n, n, p, 0), r.Perm(n), 1
	for i, j := range images {
		a.Rows[i][j] = 1 + r.Intn(p-1)
		d = d * a.Rows[i][j] % p
	}
	return a, residue(sign(images)*d, p)
}

// triangle returns a matrix with ones on the diagonal, whose determinant is 1: an upper one, or the transpose of one.
func triangle(r *rand.Rand, n, p int, lower bool) api.Matrix {
	a := random(r, n, n, p)
	for i, row := range a.Rows {
		row[i] = 1
		clear(row[:i])
	}
	if lower {
		a, _ = Turn(a)
	}
	return a
}

// TestDetMany tests P4.4: determinants of many rows that are products of a known determinant.
func TestDetMany(t *testing.T) {
	times := must[api.Matrix](t)
	r := rand.New(rand.NewSource(44))
	for _, p := range moduli {
		for _, n := range []int{1, 2, 3, 7, 31, 63, 64} {
			a, d := shuffled(r, n, p)
			x, e := Det(a)
			wantNumber(t, "Det", x, e, d, api.OK)
			b := times(Mul(triangle(r, n, p, false), times(Mul(a, triangle(r, n, p, true)))))
			x, e = Det(b)
			wantNumber(t, "Det", x, e, d, api.OK)
			b.Rows[n-1] = slices.Clone(b.Rows[0])
			if n == 1 {
				b.Rows[0][0] = 0
			}
			x, e = Det(b)
			wantNumber(t, "Det of dependent rows", x, e, 0, api.OK)
			x, e = Det(filled(n, n, p, 0))
			wantNumber(t, "Det of 0", x, e, 0, api.OK)
		}
	}
}

// TestInv tests P4.3: an inverse undoes the matrix from both sides; what has none is singular.
func TestInv(t *testing.T) {
	product := must[api.Matrix](t)
	regular, singular := 0, 0
	squareSamples(func(a api.Matrix) {
		m, e := Inv(a)
		if must[int](t)(Det(a)) == 0 {
			wantError(t, "Inv", m, e, api.ErrSingular)
			singular++
			return
		}
		regular++
		one := product(One(len(a.Rows), a.P))
		if e != api.OK || !same(product(Mul(a, m)), one) || !same(product(Mul(m, a)), one) {
			t.Fatalf("Inv(%v) = %v, error %d", a, m, int(e))
		}
	})
	if regular < 200 || singular < 200 {
		t.Fatalf("%d regular matrices, %d singular ones", regular, singular)
	}
}

// TestInvMany tests P4.3: inverses of 64 rows where the diagonal is mostly 0.
func TestInvMany(t *testing.T) {
	ok := must[api.Matrix](t)
	r := rand.New(rand.NewSource(45))
	for _, p := range moduli {
		a, _ := shuffled(r, 64, p)
		for _, b := range []api.Matrix{a, ok(Mul(triangle(r, 64, p, true), ok(Mul(a, triangle(r, 64, p, false)))))} {
			if m := ok(Mul(b, ok(Inv(b)))); !same(m, ok(One(64, p))) {
				t.Fatalf("a matrix times its Inv = %v", m)
			}
		}
	}
}

// TestPow tests P4.3: powers, by repeated multiplication.
func TestPow(t *testing.T) {
	ok := must[api.Matrix](t)
	squareSamples(func(a api.Matrix) {
		up := ok(One(len(a.Rows), a.P))
		down, back := up, up
		if must[int](t)(Det(a)) != 0 {
			back = ok(Inv(a))
		}
		limit := 17
		if len(a.Rows) == 64 {
			limit = 5
		}
		for n := range limit {
			m, e := Pow(a, n)
			want(t, "Pow", m, e, up)
			up = ok(Mul(up, a))
			if m, e = Pow(a, -n); n > 0 && must[int](t)(Det(a)) == 0 {
				wantError(t, "Pow", m, e, api.ErrSingular)
			} else {
				want(t, "Pow", m, e, down)
				down = ok(Mul(down, back))
			}
		}
	})
}

// TestPowEnds tests P4.3: exponents at both ends of int.
func TestPowEnds(t *testing.T) {
	// The powers of x of order 4 modulo 5, and the sums that the corner of a triangle collects.
	for _, x := range []struct{ n, power int }{{math.MaxInt, 3}, {math.MaxInt - 1, 4}, {math.MinInt, 1}, {math.MinInt + 1, 2}, {1 << 62, 1}, {-(1 << 62) - 1, 3}} {
		m, e := Pow(five([]int{2}), x.n)
		want(t, "Pow(2)", m, e, five([]int{x.power}))
	}
	for _, p := range moduli {
		for _, n := range anyInts(p) {
			m, e := Pow(of(p, []int{1, 1}, []int{0, 1}), n)
			want(t, "Pow(1 1, 0 1)", m, e, of(p, []int{1, residue(n, p)}, []int{0, 1}))
		}
		zero, idle, step := of(p, []int{0}), of(p, []int{1, 0}, []int{0, 0}), of(p, []int{0, 1}, []int{0, 0})
		for _, a := range []api.Matrix{zero, idle, step} {
			for _, n := range []int{math.MinInt, math.MinInt + 1, -1 << 32, -2, -1} {
				m, e := Pow(a, n)
				wantError(t, "Pow of a singular matrix", m, e, api.ErrSingular)
			}
			m, e := Pow(a, 0)
			want(t, "Pow(singular, 0)", m, e, must[api.Matrix](t)(One(len(a.Rows), p)))
		}
		for _, n := range []int{1, 2, 3, 1 << 32, math.MaxInt} {
			m, e := Pow(zero, n)
			want(t, "Pow(0)", m, e, zero)
			m, e = Pow(idle, n)
			want(t, "Pow(1 0, 0 0)", m, e, idle)
			m, e = Pow(step, n)
			if n == 1 {
				want(t, "Pow(0 1, 0 0)", m, e, step)
			} else {
				want(t, "Pow(0 1, 0 0)", m, e, filled(2, 2, p, 0))
			}
		}
	}
	r := rand.New(rand.NewSource(46))
	big, _ := shuffled(r, 64, 9973)
	for _, n := range []int{math.MinInt, math.MaxInt} {
		if m, e := Pow(big, n); e != api.OK || Check(m) != api.OK {
			t.Errorf("Pow of 64 rows = %v, error %d", m, int(e))
		}
	}
}
