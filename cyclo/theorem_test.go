package cyclo

import (
	"math/rand"
	"slices"
	"testing"

	"cayley/api"
)

// fitting returns lists of k numbers with small coefficients that can all be written with one n.
func fitting(t *testing.T, seed int64, k int) [][]api.Cyc {
	r := rand.New(rand.NewSource(seed))
	var l [][]api.Cyc
	for n := 1; n <= 120; n++ {
		for range 3 {
			var one []api.Cyc
			for range k {
				d := 1 + r.Intn(n)
				for n%d != 0 {
					d = 1 + r.Intn(n)
				}
				one = append(one, must(t)(Make(d, random(r, d, 9))))
			}
			l = append(l, one)
		}
	}
	return l
}

// TestRing tests P6.5: the numbers are a commutative ring.
func TestRing(t *testing.T) {
	m := must(t)
	equal := func(name string, a, b api.Cyc) {
		t.Helper()
		want(t, name, a, api.OK, b, api.OK)
	}
	zero, one := m(Int(0)), m(Int(1))
	for _, l := range fitting(t, 71, 3) {
		a, b, c := l[0], l[1], l[2]
		equal("a+b", m(Add(a, b)), m(Add(b, a)))
		equal("a*b", m(Mul(a, b)), m(Mul(b, a)))
		equal("(a+b)+c", m(Add(m(Add(a, b)), c)), m(Add(a, m(Add(b, c)))))
		equal("(a*b)*c", m(Mul(m(Mul(a, b)), c)), m(Mul(a, m(Mul(b, c)))))
		equal("a*(b+c)", m(Mul(a, m(Add(b, c)))), m(Add(m(Mul(a, b)), m(Mul(a, c)))))
		equal("a+0", m(Add(a, zero)), a)
		equal("a*1", m(Mul(a, one)), a)
		equal("a*0", m(Mul(a, zero)), zero)
		equal("a-a", m(Add(a, m(Scale(a, -1)))), zero)
		equal("a*3", m(Scale(a, 3)), m(Add(a, m(Add(a, a)))))
		equal("a*(-7)", m(Scale(a, -7)), m(Mul(a, m(Int(-7)))))
		equal("a*7/7", m(Quot(m(Scale(a, 7)), 7)), a)
	}
}

// TestPowers tests P6.5: the powers of z(n) are as many as n, each of them the one before it times z(n).
func TestPowers(t *testing.T) {
	m := must(t)
	for n := 1; n <= 120; n++ {
		z, power := m(Root(n, 1)), m(Int(1))
		var l []api.Cyc
		for k := range n {
			want(t, "Root", m(Root(n, k)), api.OK, power, api.OK)
			if slices.ContainsFunc(l, func(a api.Cyc) bool { return same(a, power) }) {
				t.Fatalf("z(%d)^%d is a lower power, too", n, k)
			}
			l = append(l, power)
			power = m(Mul(power, z))
		}
		want(t, "z(n)^n", power, api.OK, num(1, 1), api.OK)
		for d := 1; d <= n; d++ {
			if n%d == 0 {
				want(t, "z(n)^(n/d)", l[n/d%n], api.OK, m(Root(d, 1)), api.OK)
			}
		}
	}
}

// TestAutomorphisms tests P6.6: automorphisms respect sums and products, multiply one after the other, and fix the integers.
func TestAutomorphisms(t *testing.T) {
	m := must(t)
	for i, l := range fitting(t, 72, 2) {
		a, b := l[0], l[1]
		n := least(a.N, b.N)
		for j, k := range units(n) {
			if (i+j)%4 > 0 {
				continue
			}
			x, y := m(Galois(a, k)), m(Galois(b, k))
			want(t, "the image of a sum", m(Galois(m(Add(a, b)), k)), api.OK, m(Add(x, y)), api.OK)
			want(t, "the image of a product", m(Galois(m(Mul(a, b)), k)), api.OK, m(Mul(x, y)), api.OK)
			for _, other := range []int{1, -1, k, n + 1, units(n)[j/2]} {
				want(t, "the image of an image", m(Galois(x, other)), api.OK, m(Galois(a, k*other)), api.OK)
			}
			fixed := m(Int(k - 50))
			want(t, "the image of an integer", m(Galois(fixed, k)), api.OK, fixed, api.OK)
			if x.N != a.N {
				t.Fatalf("the image of %v is %v", a, x)
			}
		}
		want(t, "Conj", m(Conj(a)), api.OK, m(Galois(a, -1)), api.OK)
		want(t, "Conj of Conj", m(Conj(m(Conj(a)))), api.OK, a, api.OK)
	}
	for _, n := range orders {
		for _, k := range units(n) {
			want(t, "the image of a root", m(Galois(m(Root(n, 1)), k)), api.OK, m(Root(n, k)), api.OK)
		}
	}
}

// TestFixed tests P6.6: what all automorphisms fix is an integer.
func TestFixed(t *testing.T) {
	m := must(t)
	for _, a := range some(t, 73, 20) {
		sum := num(1, 0)
		fixed := true
		for _, k := range units(a.N) {
			x := m(Galois(a, k))
			sum, fixed = m(Add(sum, x)), fixed && same(x, a)
		}
		if _, is := Rational(a); is != fixed {
			t.Errorf("Rational(%v) is %v", a, is)
		}
		if _, is := Rational(sum); !is {
			t.Errorf("the sum of the images of %v is %v", a, sum)
		}
	}
}

// TestMultiples tests P6.7: a number that is made with a multiple of n is the same.
func TestMultiples(t *testing.T) {
	lists(func(n int, c []int) {
		a, e := Make(n, c)
		for k := 2; k*n <= 120 && k*len(c) <= 1000; k++ {
			x, again := Make(k*n, apart(c, k))
			want(t, "Make with a multiple", x, again, a, e)
		}
	})
}

// TestLeast tests P6.7: for each prime divisor q of N some automorphism that is 1 modulo N/q changes the number.
func TestLeast(t *testing.T) {
	check := func(a api.Cyc) {
		for q := 2; q <= a.N; q++ {
			if a.N%q != 0 || len(units(q)) != q-1 {
				continue
			}
			changed := slices.ContainsFunc(units(a.N), func(k int) bool {
				return k%(a.N/q) == 1%(a.N/q) && !same(must(t)(Galois(a, k)), a)
			})
			if !changed {
				t.Fatalf("%v could be written with %d", a, a.N/q)
			}
		}
	}
	lists(func(n int, c []int) {
		for i := range c {
			c[i] %= 10_000
		}
		check(must(t)(Make(n, c)))
	})
	for _, a := range some(t, 74, 1000) {
		check(a)
	}
}

// TestSumOfPowers tests P6.8: for n above 1 the powers of z(n) add up to 0.
func TestSumOfPowers(t *testing.T) {
	m := must(t)
	for n := 2; n <= 120; n++ {
		sum := num(1, 0)
		for k := range n {
			sum = m(Add(sum, m(Root(n, k))))
		}
		want(t, "the sum of all powers", sum, api.OK, num(1, 0), api.OK)
		for _, x := range []int{1, -5, 10_000_000} {
			want(t, "Make of all powers", m(Make(n, slices.Repeat([]int{x}, n))), api.OK, num(1, 0), api.OK)
		}
	}
	want(t, "Make of the power of 1", m(Make(1, []int{1})), api.OK, num(1, 1), api.OK)
}
