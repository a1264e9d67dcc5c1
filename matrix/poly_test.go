package matrix

import (
	"math/rand"
	"slices"
	"testing"

	"cayley/api"
)

// minus returns x*1 - a.
func minus(t *testing.T, x int, a api.Matrix) api.Matrix {
	ok := must[api.Matrix](t)
	return ok(Add(ok(Scale(ok(One(len(a.Rows), a.P)), x)), ok(Scale(a, -1))))
}

// value returns the value of a polynomial at x.
func value(l []int, x, p int) int {
	sum := 0
	for _, c := range slices.Backward(l) {
		sum = (sum*x + c) % p
	}
	return sum
}

// multiplied returns the product of two polynomials.
func multiplied(k, l []int, p int) []int {
	product := make([]int, len(k)+len(l)-1)
	for i, x := range k {
		for j, y := range l {
			product[i+j] = (product[i+j] + x*y) % p
		}
	}
	return product
}

// companion returns a matrix whose characteristic polynomial is the given one, with the greatest coefficient 1: its diagonal is 0 but for the end.
func companion(l []int, p int) api.Matrix {
	n := len(l) - 1
	a := filled(n, n, p, 0)
	for i, row := range a.Rows {
		if i+1 < n {
			row[i+1] = 1
		}
	}
	for j := range n {
		a.Rows[n-1][j] = (p - l[j]) % p
	}
	return a
}

// TestTrace tests P4.4: traces.
func TestTrace(t *testing.T) {
	squareSamples(func(a api.Matrix) {
		sum := 0
		for i := range a.Rows {
			sum += a.Rows[i][i]
		}
		n, e := Trace(a)
		wantNumber(t, "Trace", n, e, sum%a.P, api.OK)
	})
}

// TestPolyValues tests P4.4: the values of Poly are the determinants of x*1 - a, at more residues than the degree says, which leaves no choice.
func TestPolyValues(t *testing.T) {
	try := func(a api.Matrix) {
		if a.P <= len(a.Rows) {
			return
		}
		l, e := Poly(a)
		if e != api.OK || len(l) != len(a.Rows)+1 {
			t.Fatalf("Poly(%v) = %v, error %d", a, l, int(e))
		}
		for x := range len(l) {
			if x < a.P && (l[x] < 0 || l[x] >= a.P) {
				t.Fatalf("Poly(%v) = %v", a, l)
			}
			if got, wanted := value(l, x, a.P), must[int](t)(Det(minus(t, x, a))); got != wanted {
				t.Fatalf("Poly(%v) = %v has at %d the value %d, want %d", a, l, x, got, wanted)
			}
		}
	}
	squareSamples(try)
	r := rand.New(rand.NewSource(50))
	for _, p := range []int{67, 9973} {
		a, _ := shuffled(r, 64, p)
		for _, b := range []api.Matrix{a, cycle(64, p), jordan(64, p), filled(64, 64, p, 0)} {
			try(b)
		}
	}
}

// TestPolyBlocks tests P4.4: characteristic polynomials that are known, modulo small primes, too: those of blocks are multiplied, whatever stands beside them.
func TestPolyBlocks(t *testing.T) {
	r := rand.New(rand.NewSource(51))
	for _, p := range moduli {
		for _, sizes := range [][]int{{1}, {2}, {1, 1}, {2, 3}, {5, 1, 2}, {64}, {63, 1}, {1, 63}, {32, 32}, {7, 50, 7}} {
			wanted := []int{1}
			var l []api.Matrix
			for _, n := range sizes {
				c := append(make([]int, n), 1)
				for i := range n {
					c[i] = r.Intn(2) * r.Intn(p)
				}
				wanted = multiplied(wanted, c, p)
				l = append(l, companion(c, p))
			}
			a := blocks(l...)
			got, e := Poly(a)
			wantList(t, "Poly", got, e, wanted, api.OK)
			for i, n := 0, 0; i < len(sizes); i++ {
				n += sizes[i]
				for _, row := range a.Rows[n-sizes[i] : n] {
					for j := n; j < len(row); j++ {
						row[j] = r.Intn(p)
					}
				}
			}
			got, e = Poly(a)
			wantList(t, "Poly", got, e, wanted, api.OK)
		}
		got, e := Poly(filled(64, 64, p, 0))
		wantList(t, "Poly of 0", got, e, append(make([]int, 64), 1), api.OK)
	}
	got, e := Poly(of(2, []int{1}))
	wantList(t, "Poly(1)", got, e, []int{1, 1}, api.OK)
	got, e = Poly(of(9973, []int{0, 1}, []int{1, 0}))
	wantList(t, "Poly(0 1, 1 0)", got, e, []int{9972, 0, 1}, api.OK)
	got, e = Poly(of(3, []int{0, 1, 0}, []int{0, 0, 1}, []int{1, 0, 0}))
	wantList(t, "Poly of a cycle", got, e, []int{2, 0, 0, 1}, api.OK)
}
