package matrix

import (
	"math/rand"
	"slices"
	"testing"

	"cayley/api"
	"cayley/perm"
)

// triples calls f with random square matrices of the same size and modulus.
func triples(f func(a, b, c api.Matrix)) {
	r := rand.New(rand.NewSource(53))
	for _, p := range moduli {
		for _, n := range []int{1, 1, 1, 2, 2, 2, 2, 3, 3, 3, 4, 5, 6, 7, 17, 64} {
			f(random(r, n, n, p), random(r, n, n, p), random(r, n, n, p))
			f(triangle(r, n, p, false), random(r, n, n, p), triangle(r, n, p, true))
		}
	}
}

// TestRing tests P4.6: square matrices are a ring, with Scale as the multiplication by multiples of the identity.
func TestRing(t *testing.T) {
	ok := must[api.Matrix](t)
	add := func(a, b api.Matrix) api.Matrix { return ok(Add(a, b)) }
	mul := func(a, b api.Matrix) api.Matrix { return ok(Mul(a, b)) }
	triples(func(a, b, c api.Matrix) {
		one := ok(One(len(a.Rows), a.P))
		zero := ok(Scale(one, 0))
		for i, x := range [][2]api.Matrix{
			{add(a, add(b, c)), add(add(a, b), c)}, {add(a, b), add(b, a)}, {add(a, zero), a}, {add(a, ok(Scale(a, -1))), zero},
			{mul(a, mul(b, c)), mul(mul(a, b), c)}, {mul(a, one), a}, {mul(one, a), a}, {mul(a, zero), zero},
			{mul(a, add(b, c)), add(mul(a, b), mul(a, c))}, {mul(add(a, b), c), add(mul(a, c), mul(b, c))},
			{mul(ok(Scale(one, -7)), a), ok(Scale(a, -7))}, {add(a, add(a, a)), ok(Scale(a, 3))},
		} {
			if !same(x[0], x[1]) {
				t.Fatalf("law %d: %v, but %v, of %v, %v and %v", i, x[0], x[1], a, b, c)
			}
		}
	})
}

// TestTurned tests P4.6: the transpose of a product is the product of the transposes in reverse order, also of matrices that are not square.
func TestTurned(t *testing.T) {
	ok := must[api.Matrix](t)
	shapes(func(a, b api.Matrix) {
		if x, y := ok(Turn(ok(Mul(a, b)))), ok(Mul(ok(Turn(b)), ok(Turn(a)))); !same(x, y) {
			t.Fatalf("the transpose of %v*%v is %v, not %v", a, b, x, y)
		}
		if !same(ok(Turn(ok(Turn(a)))), a) {
			t.Fatalf("the transpose of the transpose of %v", a)
		}
		v := a.Rows[0]
		if !slices.Equal(must[[]int](t)(Apply(v, b)), ok(Mul(of(a.P, v), b)).Rows[0]) {
			t.Fatalf("Apply(%v, %v)", v, b)
		}
	})
}

// TestDeterminants tests P4.7: determinants are multiplicative, and not 0 exactly where there is an inverse.
func TestDeterminants(t *testing.T) {
	ok, det := must[api.Matrix](t), must[int](t)
	triples(func(a, b, _ api.Matrix) {
		x, y := det(Det(a)), det(Det(b))
		if n := det(Det(ok(Mul(a, b)))); n != x*y%a.P {
			t.Fatalf("Det(%v*%v) = %d, want %d*%d", a, b, n, x, y)
		}
		if det(Det(ok(Turn(a)))) != x {
			t.Fatalf("Det of the transpose of %v", a)
		}
		m, e := Inv(a)
		if (e == api.OK) != (x != 0) || x != 0 && x*det(Det(m))%a.P != 1 {
			t.Fatalf("Inv(%v) = %v, error %d, but the determinant is %d", a, m, int(e), x)
		}
	})
}

// TestCayleyHamilton tests P4.8: a matrix is a root of its characteristic polynomial, whose coefficients are those of the determinant and the trace.
func TestCayleyHamilton(t *testing.T) {
	ok := must[api.Matrix](t)
	squareSamples(func(a api.Matrix) {
		n, l := len(a.Rows), must[[]int](t)(Poly(a))
		one := ok(One(n, a.P))
		sum := ok(Scale(one, 0))
		for _, c := range slices.Backward(l) {
			sum = ok(Add(ok(Mul(sum, a)), ok(Scale(one, c))))
		}
		if !same(sum, ok(Scale(one, 0))) {
			t.Fatalf("%v is no root of its polynomial %v: %v", a, l, sum)
		}
		d := must[int](t)(Det(a))
		if n%2 == 1 {
			d = -d
		}
		if len(l) != n+1 || l[n] != 1 || l[0] != residue(d, a.P) || l[n-1] != residue(-must[int](t)(Trace(a)), a.P) {
			t.Fatalf("Poly(%v) = %v", a, l)
		}
	})
}

// TestConjugates tests P4.8: conjugate matrices have the same characteristic polynomial.
func TestConjugates(t *testing.T) {
	ok := must[api.Matrix](t)
	triples(func(a, b, _ api.Matrix) {
		l := must[[]int](t)(Poly(a))
		if k := must[[]int](t)(Poly(ok(Turn(a)))); !slices.Equal(k, l) {
			t.Fatalf("Poly of the transpose of %v = %v, want %v", a, k, l)
		}
		m, e := Inv(b)
		if e != api.OK {
			return
		}
		if k := must[[]int](t)(Poly(ok(Mul(m, ok(Mul(a, b)))))); !slices.Equal(k, l) {
			t.Fatalf("Poly of the conjugate of %v by %v = %v, want %v", a, b, k, l)
		}
	})
}

// TestPowerLaws tests P4.3: powers add up and multiply, negative ones too.
func TestPowerLaws(t *testing.T) {
	ok := must[api.Matrix](t)
	exponents := []int{0, 1, -1, 2, -3, 10, 1000, -12_345, 1 << 30}
	triples(func(a, _, _ api.Matrix) {
		if len(a.Rows) > 7 || must[int](t)(Det(a)) == 0 {
			return
		}
		for _, m := range exponents {
			for _, n := range exponents {
				x := ok(Pow(a, m))
				if !same(ok(Mul(x, ok(Pow(a, n)))), ok(Pow(a, m+n))) || !same(ok(Pow(x, n)), ok(Pow(a, m*n))) {
					t.Fatalf("the powers %d and %d of %v", m, n, a)
				}
			}
		}
	})
}

// TestHomomorphism tests P4.9: Perm of a product is the product, as of permutations that act on the right, and its order is that of the matrix.
func TestHomomorphism(t *testing.T) {
	ok, permutation := must[api.Matrix](t), must[api.Perm](t)
	try := func(a, b api.Matrix) {
		x, e := Perm(a)
		y, f := Perm(b)
		if e != api.OK || f != api.OK {
			return
		}
		if z := permutation(Perm(ok(Mul(a, b)))); !slices.Equal(z, permutation(perm.Mul(x, y))) {
			t.Fatalf("Perm(%v*%v) = %v, want %v*%v", a, b, z, x, y)
		}
		if z := permutation(Perm(ok(Inv(a)))); !slices.Equal(z, permutation(perm.Inv(x))) {
			t.Fatalf("Perm of the inverse of %v = %v", a, z)
		}
		if m, n := must[int](t)(Order(a)), must[int](t)(perm.Order(x)); m != n {
			t.Fatalf("Order(%v) = %d, but %d of its permutation", a, m, n)
		}
	}
	for _, p := range []int{2, 3} {
		every(2, p, func(a api.Matrix) { every(2, p, func(b api.Matrix) { try(a, b) }) })
	}
	r := rand.New(rand.NewSource(54))
	spaces(func(n, p int) {
		for range 20 {
			try(random(r, n, n, p), random(r, n, n, p))
			try(triangle(r, n, p, false), triangle(r, n, p, true))
		}
		a := must[api.Matrix](t)(One(n, p))
		if q, e := Perm(a); e != api.OK || !slices.IsSorted(q) {
			t.Fatalf("Perm of the identity = %v, error %d", q, int(e))
		}
	})
}
