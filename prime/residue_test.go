package prime

import (
	"math"
	"math/big"
	"math/rand"
	"slices"
	"testing"

	"cayley/api"
)

// noModuli are numbers that are no modulus; 999,966,000,289 is the square of the greatest one.
func noModuli() []int {
	return []int{0, 1, 4, 9, 999_981, 999_984, 1_000_000, 1_000_003, 999_966_000_289, 1<<32 + 2, 1<<32 + 7, 1<<61 - 1, -1, -2, -3, -7, -last, -1_000_003, math.MinInt, math.MinInt + 1, math.MinInt + 7, math.MaxInt, math.MaxInt - 1}
}

// below are the primes below a number.
func below(n int) []int {
	var l []int
	for q := 2; q < n; q++ {
		if big.NewInt(int64(q)).ProbablyPrime(1) {
			l = append(l, q)
		}
	}
	return l
}

// field is what is known of a modulus by trying everything.
type field struct {
	p, root int
	powers  []int // of the root
	logs    []int
	sqrts   []int // -1 if there is none
}

// cycle are the powers of a residue other than 0, up to the first that is 1 again.
func cycle(x, p int) []int {
	l := []int{1}
	for y := x; y != 1; y = y * x % p {
		l = append(l, y)
	}
	return l
}

func tried(p int) field {
	f := field{p: p, root: 1, powers: []int{1}, logs: make([]int, p), sqrts: slices.Repeat([]int{-1}, p)}
	for len(f.powers) < p-1 {
		f.root++
		f.powers = cycle(f.root, p)
	}
	for k, x := range f.powers {
		f.logs[x] = k
	}
	for y := p - 1; y >= 0; y-- {
		f.sqrts[y*y%p] = y
	}
	return f
}

// check compares the functions of a residue with what is known of it; a stands for the residue x.
func (f field) check(t *testing.T, a, x int) {
	t.Helper()
	equal(t, "Mod", of(Mod(a, f.p)), answer{x, api.OK}, a, f.p)
	inv, log, sqrt, symbol := answer{0, api.ErrZero}, answer{0, api.ErrZero}, answer{f.sqrts[x], api.OK}, answer{1, api.OK}
	if x > 0 {
		log = answer{f.logs[x], api.OK}
		inv = answer{f.powers[(f.p-1-log.n)%(f.p-1)], api.OK}
		if inv.n*x%f.p != 1 {
			t.Fatalf("%d is no inverse of %d modulo %d", inv.n, x, f.p)
		}
	} else {
		symbol.n = 0
	}
	if sqrt.n < 0 {
		sqrt, symbol.n = answer{0, api.ErrNone}, -1
	}
	equal(t, "Inv", of(Inv(a, f.p)), inv, a, f.p)
	equal(t, "Log", of(Log(a, f.p)), log, a, f.p)
	equal(t, "Sqrt", of(Sqrt(a, f.p)), sqrt, a, f.p)
	equal(t, "Symbol", of(Symbol(a, f.p)), symbol, a, f.p)
}

// TestResidues tests P3.2, P3.3 and P3.4: Mod, Inv, Order, Log, Sqrt and Symbol of all residues of small moduli.
func TestResidues(t *testing.T) {
	for _, p := range below(130) {
		f := tried(p)
		for a := -2 * p; a <= 2*p; a++ {
			x := (a + 2*p) % p
			f.check(t, a, x)
			order := answer{0, api.ErrZero}
			if x > 0 {
				order = answer{len(cycle(x, p)), api.OK}
			}
			equal(t, "Order", of(Order(a, p)), order, a, p)
		}
	}
}

// TestLargeModuli tests P3.2, P3.3 and P3.4: some residues of large moduli, those next to 0, and those with logarithms near the bounds among them.
func TestLargeModuli(t *testing.T) {
	r := rand.New(rand.NewSource(33))
	for _, p := range []int{8191, 65537, 786433, lastBut1, last} {
		f := tried(p)
		equal(t, "Root", of(Root(p)), answer{f.root, api.OK}, p)
		l := []int{0, 1, 2, 3, 4, 9, p - 1, p - 2, p - 4, p / 2, p/2 + 1}
		for _, k := range []int{0, 1, 2, 89, 90, 91, 255, 256, 257, 511, 512, 997, 998, 999, 1000, 1001, 2000, p - 1001, p - 1000, p - 3, p - 2, (p - 1) / 2} {
			l = append(l, f.powers[(k+p-1)%(p-1)])
		}
		for range 200 {
			l = append(l, r.Intn(p))
		}
		for i, x := range l {
			a := x + p*(r.Intn(1<<40)-1<<39)
			f.check(t, a, x)
			if x > 0 && i < 40 {
				equal(t, "Order", of(Order(a, p)), answer{len(cycle(x, p)), api.OK}, a, p)
			}
		}
	}
}

// TestPow tests P3.2: small powers, by multiplying.
func TestPow(t *testing.T) {
	for _, p := range below(45) {
		for a := -p; a <= p; a++ {
			x := (a + p) % p
			y, back := 1, 1
			for n := range 50 {
				equal(t, "Pow", of(Pow(a, n, p)), answer{y, api.OK}, a, n, p)
				if x > 0 {
					equal(t, "Pow", of(Pow(a, -n, p)), answer{back, api.OK}, a, -n, p)
				} else if n > 0 {
					equal(t, "Pow", of(Pow(a, -n, p)), answer{0, api.ErrZero}, a, -n, p)
				}
				y = y * x % p
				for k := 0; x > 0 && k < p; k++ {
					if k*x%p == back {
						back = k
						break
					}
				}
			}
		}
	}
}

// modulo is the reference for residues, inverses and powers of any ints: package math/big.
func modulo(a, n, p int) (residue, inverse, power answer) {
	if p < 2 || p > 999_999 || !big.NewInt(int64(p)).ProbablyPrime(1) {
		f := answer{0, api.ErrForm}
		return f, f, f
	}
	b, m := big.NewInt(int64(p)), new(big.Int)
	m.Mod(big.NewInt(int64(a)), b)
	residue = answer{int(m.Int64()), api.OK}
	inverse = answer{0, api.ErrZero}
	if residue.n > 0 {
		inverse = answer{int(new(big.Int).ModInverse(m, b).Int64()), api.OK}
	}
	k := big.NewInt(int64(n))
	if n < 0 {
		if inverse.e != api.OK {
			return residue, inverse, inverse
		}
		k.Neg(k)
		m.SetInt64(int64(inverse.n))
	}
	return residue, inverse, answer{int(new(big.Int).Exp(m, k, b).Int64()), api.OK}
}

// against compares Mod, Inv and Pow with the reference.
func against(t *testing.T, a, n, p int) {
	t.Helper()
	residue, inverse, power := modulo(a, n, p)
	equal(t, "Mod", of(Mod(a, p)), residue, a, p)
	equal(t, "Inv", of(Inv(a, p)), inverse, a, p)
	equal(t, "Pow", of(Pow(a, n, p)), power, a, n, p)
}

// TestAnyInts tests P3.2: Mod, Inv and Pow of any ints, both ends of int among them, as residues, exponents and moduli.
func TestAnyInts(t *testing.T) {
	for _, p := range append(ends(), noModuli()...) {
		for _, a := range ends() {
			for _, n := range ends() {
				against(t, a, n, p)
				against(t, a%last*p, n, p)
			}
		}
	}
	r := rand.New(rand.NewSource(34))
	l := below(2000)
	for range 20_000 {
		a, n := int(r.Uint64())>>r.Intn(63), int(r.Uint64())>>r.Intn(63)
		against(t, a, n, l[r.Intn(len(l))])
		against(t, a, n, r.Intn(1_000_010))
		against(t, a, n, last)
	}
}

// TestEndsOfInt tests P3.2 to P3.4: the ends of int stand for their residues in all functions.
func TestEndsOfInt(t *testing.T) {
	for _, p := range []int{2, 3, 7, 65537, last} {
		for _, a := range ends() {
			x, e := Mod(a, p)
			if e != api.OK || x < 0 || x >= p {
				t.Fatalf("Mod(%d, %d) = %d, error %d", a, p, x, int(e))
			}
			equal(t, "Order", of(Order(a, p)), of(Order(x, p)), a, p)
			equal(t, "Log", of(Log(a, p)), of(Log(x, p)), a, p)
			equal(t, "Sqrt", of(Sqrt(a, p)), of(Sqrt(x, p)), a, p)
			equal(t, "Symbol", of(Symbol(a, p)), of(Symbol(x, p)), a, p)
		}
	}
	// 2^63 is 1 modulo 7, and 2 modulo 6: the power -2^63 of 3 is its power -2 there.
	for _, x := range []struct {
		name      string
		got, want answer
	}{
		{"Mod(-2^63, 7)", of(Mod(math.MinInt, 7)), answer{6, api.OK}}, {"Mod(2^63-1, 7)", of(Mod(math.MaxInt, 7)), answer{0, api.OK}}, {"Mod(-2^63, 2)", of(Mod(math.MinInt, 2)), answer{0, api.OK}}, {"Mod(2^63-1, 2)", of(Mod(math.MaxInt, 2)), answer{1, api.OK}},
		{"Inv(-2^63, 7)", of(Inv(math.MinInt, 7)), answer{6, api.OK}}, {"Inv(2^63-1, 7)", of(Inv(math.MaxInt, 7)), answer{0, api.ErrZero}}, {"Order(-2^63, 7)", of(Order(math.MinInt, 7)), answer{2, api.OK}}, {"Order(2^63-1, 7)", of(Order(math.MaxInt, 7)), answer{0, api.ErrZero}},
		{"Log(-2^63, 7)", of(Log(math.MinInt, 7)), answer{3, api.OK}}, {"Log(2^63-1, 7)", of(Log(math.MaxInt, 7)), answer{0, api.ErrZero}}, {"Sqrt(-2^63, 7)", of(Sqrt(math.MinInt, 7)), answer{0, api.ErrNone}}, {"Sqrt(2^63-1, 7)", of(Sqrt(math.MaxInt, 7)), answer{0, api.OK}},
		{"Symbol(-2^63, 7)", of(Symbol(math.MinInt, 7)), answer{-1, api.OK}}, {"Symbol(2^63-1, 7)", of(Symbol(math.MaxInt, 7)), answer{0, api.OK}},
		{"Pow(3, -2^63, 7)", of(Pow(3, math.MinInt, 7)), answer{4, api.OK}}, {"Pow(3, 2^63-1, 7)", of(Pow(3, math.MaxInt, 7)), answer{3, api.OK}}, {"Pow(0, -2^63, 7)", of(Pow(0, math.MinInt, 7)), answer{0, api.ErrZero}}, {"Pow(0, 2^63-1, 7)", of(Pow(0, math.MaxInt, 7)), answer{0, api.OK}},
		{"Pow(1, -2^63, 2)", of(Pow(1, math.MinInt, 2)), answer{1, api.OK}}, {"Pow(2, -2^63, 2)", of(Pow(2, math.MinInt, 2)), answer{0, api.ErrZero}}, {"Pow(2, -2^63, 3)", of(Pow(2, math.MinInt, 3)), answer{1, api.OK}}, {"Pow(2, 2^63-1, 3)", of(Pow(2, math.MaxInt, 3)), answer{2, api.OK}},
	} {
		if x.got != x.want {
			t.Errorf("%s = %d, error %d, want %d, error %d", x.name, x.got.n, int(x.got.e), x.want.n, int(x.want.e))
		}
	}
}

// TestPowersOfZero tests P3.2: the power 0 of 0 is 1, positive ones are 0, and negative ones do not exist.
func TestPowersOfZero(t *testing.T) {
	for _, p := range []int{2, 3, 7, last} {
		for _, a := range []int{0, p, -p, 2 * p, -3 * p} {
			equal(t, "Pow", of(Pow(a, 0, p)), answer{1, api.OK}, a, 0, p)
			for _, n := range []int{1, 2, p - 1, p, math.MaxInt} {
				equal(t, "Pow", of(Pow(a, n, p)), answer{0, api.OK}, a, n, p)
			}
			for _, n := range []int{-1, -2, 1 - p, -p, math.MinInt} {
				equal(t, "Pow", of(Pow(a, n, p)), answer{0, api.ErrZero}, a, n, p)
			}
		}
	}
}

// TestNoModulus tests P3.2 to P3.4: ErrForm comes first, whatever else is wrong.
func TestNoModulus(t *testing.T) {
	form := answer{0, api.ErrForm}
	for _, p := range noModuli() {
		equal(t, "Root", of(Root(p)), form, p)
		for _, a := range append(ends(), p) {
			equal(t, "Mod", of(Mod(a, p)), form, a, p)
			equal(t, "Inv", of(Inv(a, p)), form, a, p)
			equal(t, "Order", of(Order(a, p)), form, a, p)
			equal(t, "Log", of(Log(a, p)), form, a, p)
			equal(t, "Sqrt", of(Sqrt(a, p)), form, a, p)
			equal(t, "Symbol", of(Symbol(a, p)), form, a, p)
			equal(t, "Zeta", of(Zeta(a, p)), form, a, p)
			for _, n := range ends() {
				equal(t, "Pow", of(Pow(a, n, p)), form, a, n, p)
			}
		}
	}
}
