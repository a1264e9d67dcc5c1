package matrix

import (
	"math/rand"
	"slices"
	"testing"

	"cayley/api"
)

// spaces calls f with the moduli and numbers of rows for which there are at most 64 vectors.
func spaces(f func(n, p int)) {
	for p := 2; p <= 64; p++ {
		if !isModulus(p) {
			continue
		}
		for n, count := 1, p; count <= 64; n, count = n+1, count*p {
			f(n, p)
		}
	}
}

// vectors returns all vectors of n residues, in lexicographic order.
func vectors(n, p int) [][]int {
	if n == 0 {
		return [][]int{nil}
	}
	var l [][]int
	for x := range p {
		for _, v := range vectors(n-1, p) {
			l = append(l, append([]int{x}, v...))
		}
	}
	return l
}

// tryPerm tests Perm of a matrix by the list of all vectors.
func tryPerm(t *testing.T, a api.Matrix) {
	t.Helper()
	q, e := Perm(a)
	if must[int](t)(Det(a)) == 0 {
		wantList(t, "Perm", q, e, nil, api.ErrSingular)
		return
	}
	l := vectors(len(a.Rows), a.P)
	var wanted []int
	for _, v := range l {
		image := must[[]int](t)(Apply(v, a))
		wanted = append(wanted, slices.IndexFunc(l, func(w []int) bool { return slices.Equal(w, image) }))
	}
	wantList(t, "Perm", q, e, wanted, api.OK)
}

// TestPerm tests P4.5: Perm for all numbers of vectors that are small enough, 64 among them.
func TestPerm(t *testing.T) {
	for _, p := range []int{2, 3, 5, 7} {
		every(1, p, func(a api.Matrix) { tryPerm(t, a) })
		every(2, p, func(a api.Matrix) { tryPerm(t, a) })
	}
	every(3, 2, func(a api.Matrix) { tryPerm(t, a) })
	r := rand.New(rand.NewSource(52))
	count := 0
	spaces(func(n, p int) {
		count++
		for range 20 {
			tryPerm(t, random(r, n, n, p))
			tryPerm(t, must[api.Matrix](t)(Mul(triangle(r, n, p, true), triangle(r, n, p, false))))
		}
		tryPerm(t, cycle(n, p))
		tryPerm(t, jordan(n, p))
		tryPerm(t, filled(n, n, p, 0))
	})
	if count != 18+1+1+2+5 {
		t.Fatalf("%d spaces", count)
	}
}

// TestPermOf tests P4.5: single permutations.
func TestPermOf(t *testing.T) {
	q, e := Perm(of(2, []int{1}))
	wantList(t, "Perm(1)", q, e, []int{0, 1}, api.OK)
	q, e = Perm(of(3, []int{2}))
	wantList(t, "Perm(2)", q, e, []int{0, 2, 1}, api.OK)
	// The vectors are rows: 01, with the number 1, is mapped to the last row.
	q, e = Perm(of(2, []int{1, 1}, []int{0, 1}))
	wantList(t, "Perm(1 1, 0 1)", q, e, []int{0, 1, 3, 2}, api.OK)
	q, e = Perm(jordan(6, 2))
	if e != api.OK || len(q) != 64 || q[1] != 1 || q[2] != 3 || q[32] != 48 || q[63] != 32 {
		t.Errorf("Perm of 6 rows modulo 2 = %v, error %d", q, int(e))
	}
}

// TestPermErrors tests P4.5: more than 64 vectors, which comes before a matrix without an inverse.
func TestPermErrors(t *testing.T) {
	for _, x := range []struct{ n, p int }{{7, 2}, {8, 2}, {63, 2}, {64, 2}, {4, 3}, {3, 5}, {3, 7}, {2, 11}, {64, 7}, {1, 67}, {1, 9973}, {2, 9973}, {5, 9973}, {64, 9973}} {
		for _, a := range []api.Matrix{cycle(x.n, x.p), filled(x.n, x.n, x.p, 0), filled(x.n, x.n, x.p, 1)} {
			q, e := Perm(a)
			wantList(t, "Perm", q, e, nil, api.ErrOver)
		}
	}
	spaces(func(n, p int) {
		q, e := Perm(filled(n, n, p, 0))
		wantList(t, "Perm of 0", q, e, nil, api.ErrSingular)
		if n > 1 {
			q, e = Perm(filled(n, n, p, 1))
			wantList(t, "Perm of equal rows", q, e, nil, api.ErrSingular)
		}
	})
}
