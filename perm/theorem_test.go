package perm

import (
	"math/rand"
	"slices"
	"testing"

	"cayley/api"
)

// triples calls f with all triples of permutations of degree 3, and with others of great degrees.
func triples(f func(a, b, c api.Perm)) {
	for _, a := range every(3) {
		for _, b := range every(3) {
			for _, c := range every(3) {
				f(a, b, c)
			}
		}
	}
	r := rand.New(rand.NewSource(2))
	for n := 4; n <= 64; n += 4 {
		f(r.Perm(n), r.Perm(n), r.Perm(n))
	}
}

// TestGroup tests P1.5: products are associative, the identity and the inverses are what they are called.
func TestGroup(t *testing.T) {
	ok := must[api.Perm](t)
	triples(func(a, b, c api.Perm) {
		if x, y := ok(Mul(ok(Mul(a, b)), c)), ok(Mul(a, ok(Mul(b, c)))); !slices.Equal(x, y) {
			t.Fatalf("(%v*%v)*%v = %v, but %v", a, b, c, x, y)
		}
		e := ok(One(len(a)))
		if !slices.Equal(ok(Mul(a, e)), a) || !slices.Equal(ok(Mul(e, a)), a) {
			t.Fatalf("One(%d) is no identity for %v", len(a), a)
		}
		if x := ok(Inv(a)); !slices.Equal(ok(Mul(a, x)), e) || !slices.Equal(ok(Mul(x, a)), e) {
			t.Fatalf("Inv(%v) = %v", a, x)
		}
		if !slices.Equal(ok(Mul(b, ok(Conj(a, b)))), ok(Mul(a, b))) {
			t.Fatalf("Conj(%v, %v)", a, b)
		}
		if !slices.Equal(ok(Mul(ok(Mul(b, a)), ok(Comm(a, b)))), ok(Mul(a, b))) {
			t.Fatalf("Comm(%v, %v)", a, b)
		}
	})
}

// TestPowers tests P1.5: powers add up and multiply.
func TestPowers(t *testing.T) {
	ok := must[api.Perm](t)
	exponents := []int{0, 1, -1, 2, -2, 3, 7, -12, 64, 1000, -2042040, 1 << 30, -(1 << 30)}
	triples(func(a, b, _ api.Perm) {
		for _, m := range exponents {
			p := ok(Pow(a, m))
			for _, n := range exponents {
				if !slices.Equal(ok(Mul(p, ok(Pow(a, n)))), ok(Pow(a, m+n))) {
					t.Fatalf("%v: powers %d and %d do not add up", a, m, n)
				}
				if !slices.Equal(ok(Pow(p, n)), ok(Pow(a, m*n))) {
					t.Fatalf("%v: powers %d and %d do not multiply", a, m, n)
				}
			}
			if !slices.Equal(ok(Conj(p, b)), ok(Pow(ok(Conj(a, b)), m))) {
				t.Fatalf("the power %d of the conjugate of %v by %v", m, a, b)
			}
		}
	})
}

// TestInvariants tests P1.6: the order is the least common multiple of the lengths, conjugates have the same type, signs multiply.
func TestInvariants(t *testing.T) {
	ok := must[api.Perm](t)
	triples(func(a, b, c api.Perm) {
		lengths := must[[]int](t)(Type(a))
		least := 1
		for slices.ContainsFunc(lengths, func(n int) bool { return least%n != 0 }) {
			least++
		}
		if got := must[int](t)(Order(a)); got != least {
			t.Fatalf("Order(%v) = %d, want %d", a, got, least)
		}
		for _, x := range []api.Perm{b, c} {
			if got := must[[]int](t)(Type(ok(Conj(a, x)))); !slices.Equal(got, lengths) {
				t.Fatalf("the conjugate of %v by %v has the type %v", a, x, got)
			}
		}
		ab := ok(Mul(a, b))
		if must[int](t)(Sign(ab)) != must[int](t)(Sign(a))*must[int](t)(Sign(b)) {
			t.Fatalf("the sign of %v*%v", a, b)
		}
		if must[int](t)(Sign(ok(Comm(a, b)))) != 1 {
			t.Fatalf("the sign of the commutator of %v and %v", a, b)
		}
	})
}
