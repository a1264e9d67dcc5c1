package matrix

import (
	"math"
	"math/big"
	"math/rand"
	"slices"
	"testing"

	"cayley/api"
)

// residue returns the residue of any int, by another way than the package's.
func residue(x, p int) int {
	return int(new(big.Int).Mod(big.NewInt(int64(x)), big.NewInt(int64(p))).Int64())
}

// anyInts are ints at the ends and around other bounds.
func anyInts(p int) []int {
	return []int{math.MinInt, math.MinInt + 1, -1 << 32, -1_000_000_007, -p - 1, -p, 1 - p, -2, -1, 0, 1, 2, p - 1, p, p + 1, 3*p - 1, 1 << 32, 1_000_000_007, math.MaxInt - 1, math.MaxInt}
}

// shapes calls f with random matrices a and b of the same modulus, a with as many columns as b has rows.
func shapes(f func(a, b api.Matrix)) {
	r := rand.New(rand.NewSource(42))
	for _, p := range moduli {
		for range 30 {
			l, m, n := 1+r.Intn(6), 1+r.Intn(6), 1+r.Intn(6)
			f(random(r, l, m, p), random(r, m, n, p))
		}
		f(random(r, 1, 64, p), random(r, 64, 3, p))
		f(random(r, 64, 1, p), random(r, 1, 64, p))
		f(random(r, 64, 64, p), random(r, 64, 64, p))
		f(filled(64, 64, p, p-1), filled(64, 64, p, p-1))
	}
}

// TestMul tests P4.2: products, by their definition.
func TestMul(t *testing.T) {
	shapes(func(a, b api.Matrix) {
		wanted := filled(len(a.Rows), len(b.Rows[0]), a.P, 0)
		for i, row := range wanted.Rows {
			for j := range row {
				for k, x := range a.Rows[i] {
					row[j] = (row[j] + x*b.Rows[k][j]) % a.P
				}
			}
		}
		m, e := Mul(a, b)
		want(t, "Mul", m, e, wanted)
	})
}

// TestAdd tests P4.2: sums.
func TestAdd(t *testing.T) {
	shapes(func(a, b api.Matrix) {
		if len(a.Rows) != len(b.Rows) || len(a.Rows[0]) != len(b.Rows[0]) {
			b = copyOf(a)
			slices.Reverse(b.Rows)
		}
		wanted := copyOf(a)
		for i, row := range wanted.Rows {
			for j := range row {
				row[j] = (row[j] + b.Rows[i][j]) % a.P
			}
		}
		m, e := Add(a, b)
		want(t, "Add", m, e, wanted)
	})
}

// TestScale tests P4.2: multiples, by any int.
func TestScale(t *testing.T) {
	shapes(func(a, _ api.Matrix) {
		for _, k := range anyInts(a.P) {
			wanted := copyOf(a)
			for _, row := range wanted.Rows {
				for j, x := range row {
					row[j] = residue(k, a.P) * x % a.P
				}
			}
			m, e := Scale(a, k)
			want(t, "Scale", m, e, wanted)
		}
	})
}

// TestTurn tests P4.2: transposes.
func TestTurn(t *testing.T) {
	shapes(func(a, _ api.Matrix) {
		wanted := filled(len(a.Rows[0]), len(a.Rows), a.P, 0)
		for i, row := range a.Rows {
			for j, x := range row {
				wanted.Rows[j][i] = x
			}
		}
		m, e := Turn(a)
		want(t, "Turn", m, e, wanted)
	})
}

// TestApply tests P4.2: Apply, of vectors of any ints.
func TestApply(t *testing.T) {
	r := rand.New(rand.NewSource(43))
	shapes(func(a, _ api.Matrix) {
		ints := anyInts(a.P)
		for range 5 {
			v, wanted := make([]int, len(a.Rows)), make([]int, len(a.Rows[0]))
			for i := range v {
				v[i] = ints[r.Intn(len(ints))]
				for j, x := range a.Rows[i] {
					wanted[j] = (wanted[j] + residue(v[i], a.P)*x) % a.P
				}
			}
			l, e := Apply(v, a)
			wantList(t, "Apply", l, e, wanted, api.OK)
		}
	})
	for _, p := range moduli {
		for _, k := range anyInts(p) {
			l, e := Apply([]int{k, -1}, of(p, []int{1, 0, p - 1}, []int{0, 1, 0}))
			wantList(t, "Apply", l, e, []int{residue(k, p), p - 1, residue(-residue(k, p), p)}, api.OK)
		}
	}
}

// TestIterator tests that the squares can be run twice, and broken off at once.
func TestIterator(t *testing.T) {
	a := five([]int{1, 2}, []int{3, 4})
	l := squares(a)
	for range 2 {
		exponent := 1
		for square := range l {
			m, e := Pow(a, exponent)
			want(t, "a square", square, e, m)
			if exponent == 8 {
				break
			}
			exponent *= 2
		}
	}
}
