package prime

import (
	"math/rand"
	"testing"

	"cayley/api"
)

// sure returns a number that comes without an error.
func sure(t *testing.T) func(n int, e api.Errno) int {
	return func(n int, e api.Errno) int {
		t.Helper()
		if e != api.OK {
			t.Fatalf("error %d", int(e))
		}
		return n
	}
}

// pairs calls f with all pairs of residues of small moduli, and with some of large ones.
func pairs(f func(x, y, p int)) {
	for _, p := range below(32) {
		for x := range p {
			for y := range p {
				f(x, y, p)
			}
		}
	}
	r := rand.New(rand.NewSource(35))
	for _, p := range []int{257, 9973, 65537, lastBut1, last} {
		f(0, p-1, p)
		f(p-1, p-1, p)
		for range 100 {
			f(r.Intn(p), r.Intn(p), p)
		}
	}
}

// TestField tests P3.6: residues are a field, with powers of an inverse and of products as in one.
func TestField(t *testing.T) {
	get := sure(t)
	pairs(func(x, y, p int) {
		mod := func(a int) int { return get(Mod(a, p)) }
		product := mod(x * y)
		z := mod(x + 2*y + 1)
		if mod(product*z) != mod(x*mod(y*z)) || mod(x*mod(y+z)) != mod(product+mod(x*z)) || mod(x+mod(y+z)) != mod(mod(x+y)+z) || mod(x+mod(-x)) != 0 {
			t.Fatalf("%d, %d and %d modulo %d: no ring", x, y, z, p)
		}
		if (product == 0) != (x == 0 || y == 0) {
			t.Fatalf("%d*%d is %d modulo %d", x, y, product, p)
		}
		if x == 0 {
			return
		}
		if inv := get(Inv(x, p)); mod(x*inv) != 1 || get(Inv(inv, p)) != x || get(Pow(x, -1, p)) != inv {
			t.Fatalf("Inv(%d, %d) = %d", x, p, inv)
		}
		if y != 0 && get(Inv(product, p)) != mod(get(Inv(x, p))*get(Inv(y, p))) {
			t.Fatalf("Inv(%d, %d)", product, p)
		}
	})
}

// TestFermat tests P3.6: the power p-1 of each residue but 0 is 1, so that exponents count modulo p-1; and orders divide it.
func TestFermat(t *testing.T) {
	get := sure(t)
	pairs(func(x, n, p int) {
		if x == 0 {
			return
		}
		order := get(Order(x, p))
		if get(Pow(x, p-1, p)) != 1 || get(Pow(x, order, p)) != 1 || (p-1)%order != 0 {
			t.Fatalf("the powers %d and %d of %d modulo %d", p-1, order, x, p)
		}
		for q := range factors(order) {
			if get(Pow(x, order/q, p)) == 1 {
				t.Fatalf("Order(%d, %d) = %d", x, p, order)
			}
		}
		for _, k := range []int{n + p - 1, n - 7*(p-1), n + order, n - order} {
			if get(Pow(x, k, p)) != get(Pow(x, n, p)) {
				t.Fatalf("the powers %d and %d of %d modulo %d", k, n, x, p)
			}
		}
	})
}

// TestLogarithms tests P3.7: logarithms of products are added, modulo p-1; the power of the root takes them back.
func TestLogarithms(t *testing.T) {
	get := sure(t)
	pairs(func(x, y, p int) {
		if x == 0 || y == 0 {
			return
		}
		a, b := get(Log(x, p)), get(Log(y, p))
		if get(Log(x*y, p)) != (a+b)%(p-1) {
			t.Fatalf("the logarithms of %d and %d modulo %d do not add up", x, y, p)
		}
		if a < 0 || a > p-2 || get(Pow(get(Root(p)), a, p)) != x {
			t.Fatalf("Log(%d, %d) = %d", x, p, a)
		}
	})
}

// TestSquares tests P3.8: half of the residues other than 0 are squares, and the roots of squares are least.
func TestSquares(t *testing.T) {
	get := sure(t)
	for _, p := range append(below(300)[1:], 2003) {
		squares := 0
		for x := 1; x < p; x++ {
			switch symbol := get(Symbol(x, p)); symbol {
			case 1:
				squares++
				if y := get(Sqrt(x, p)); get(Mod(y*y, p)) != x || 2*y > p {
					t.Fatalf("Sqrt(%d, %d) = %d", x, p, y)
				}
			case -1:
				equal(t, "Sqrt", of(Sqrt(x, p)), answer{0, api.ErrNone}, x, p)
			default:
				t.Fatalf("Symbol(%d, %d) = %d", x, p, symbol)
			}
		}
		if 2*squares != p-1 {
			t.Fatalf("%d squares modulo %d", squares, p)
		}
	}
}

// TestSymbols tests P3.8: Symbol is multiplicative, and the power (p-1)/2.
func TestSymbols(t *testing.T) {
	get := sure(t)
	pairs(func(x, y, p int) {
		a, b := get(Symbol(x, p)), get(Symbol(y, p))
		if get(Symbol(x*y, p)) != a*b {
			t.Fatalf("Symbol(%d*%d, %d) is not %d*%d", x, y, p, a, b)
		}
		if p > 2 && get(Pow(x, (p-1)/2, p)) != get(Mod(a, p)) {
			t.Fatalf("Symbol(%d, %d) = %d", x, p, a)
		}
	})
}
