package linear

import (
	"math/rand"
	"slices"
	"testing"

	"cayley/api"
	"cayley/matrix"
)

// TestSpanAlone tests P5.4: the basis depends on the span alone.
func TestSpanAlone(t *testing.T) {
	r := rand.New(rand.NewSource(97))
	check := func(p, n int, l [][]int) {
		wanted := must[[][]int](t)(Basis(p, n, l))
		multiples := copyOf(l)
		for _, row := range multiples {
			add(row, r.Intn(p-1), row, p)
		}
		reversed := slices.Clone(l)
		slices.Reverse(reversed)
		for _, other := range [][][]int{reversed, multiples, mixed(r, l, p), mixed(r, slices.Concat(wanted, filled(2, n, 0)), p), shifted(r, l, p), slices.Concat(l, l)[:min(2*len(l), 200)]} {
			b, e := Basis(p, n, other)
			want(t, "Basis of the same span", b, e, wanted, api.OK)
		}
		b, e := Basis(p, n, wanted)
		want(t, "Basis of a basis", b, e, wanted, api.OK)
	}
	lists(check)
	long(check)
}

// TestRanks tests P5.5: the ranks of Sum and Meet together are those of both lists together.
func TestRanks(t *testing.T) {
	r := rand.New(rand.NewSource(101))
	rank := func(p, n int, l [][]int) int { return must[int](t)(Rank(p, n, l)) }
	for _, p := range moduli {
		for _, n := range []int{1, 2, 3, 5, 8, 20, 33} {
			for _, x := range [][2]int{{1, 1}, {n, n}, {n / 2, n}, {(n + 2) / 2, (n + 3) / 2}, {n, 0}} {
				common := random(r, n/3, n, n/3, p)
				a := slices.Concat(common, random(r, x[0], n, x[0], p))
				b := mixed(r, slices.Concat(random(r, x[1], n, x[1], p), common), p)
				sum, meet := must[[][]int](t)(Sum(p, n, a, b)), must[[][]int](t)(Meet(p, n, a, b))
				if len(sum)+len(meet) != rank(p, n, a)+rank(p, n, b) {
					t.Fatalf("the ranks of Sum and Meet of %v and %v modulo %d are %d and %d", a, b, p, len(sum), len(meet))
				}
				for _, v := range meet {
					if !must[bool](t)(In(p, n, a, v)) || !must[bool](t)(In(p, n, b, v)) {
						t.Fatalf("Meet(%d, %d, %v, %v) has the row %v", p, n, a, b, v)
					}
				}
				other, e := Sum(p, n, b, a)
				want(t, "Sum the other way", other, e, sum, api.OK)
				other, e = Meet(p, n, b, a)
				want(t, "Meet the other way", other, e, meet, api.OK)
			}
		}
	}
}

// TestKernelRank tests P5.6: the ranks of Kernel and of the rows of a matrix are together its number of rows.
func TestKernelRank(t *testing.T) {
	check := func(a api.Matrix) {
		kernel, rank := must[[][]int](t)(Kernel(a)), must[int](t)(Rank(a.P, len(a.Rows[0]), a.Rows))
		if len(kernel)+rank != len(a.Rows) {
			t.Fatalf("the ranks of %v and of its kernel are %d and %d", a, rank, len(kernel))
		}
	}
	matrices(check)
	large(func(_ *rand.Rand, a api.Matrix) { check(a) })
}

// TestEigenRanks tests P5.7: the ranks of all Eigen are together at most the number of rows, and Values are the roots of matrix.Poly.
func TestEigenRanks(t *testing.T) {
	check := func(a api.Matrix) {
		poly, sum := must[[]int](t)(matrix.Poly(a)), 0
		var roots []int
		for x := range a.P {
			value, power := 0, 1
			for _, c := range poly {
				value = (value + c*power) % a.P
				power = power * x % a.P
			}
			if value == 0 {
				roots = append(roots, x)
			}
		}
		l, e := Values(a)
		wantRow(t, "Values", l, e, roots, api.OK)
		for _, x := range roots {
			k := len(must[[][]int](t)(Eigen(a, x)))
			if k == 0 {
				t.Fatalf("Eigen(%v, %d) has no rows", a, x)
			}
			sum += k
		}
		if sum > len(a.Rows) {
			t.Fatalf("the ranks of all Eigen of %v are together %d", a, sum)
		}
	}
	matrices(func(a api.Matrix) {
		if len(a.Rows) == len(a.Rows[0]) {
			check(a)
		}
	})
	r := rand.New(rand.NewSource(103))
	for _, p := range moduli {
		for _, n := range []int{1, 2, 3, 4, 5, 6, 7, 8, 12, 33, 64} {
			check(of(p, random(r, n, n, n, p)...))
			check(of(p, random(r, n, n, n/2, p)...))
		}
	}
}
