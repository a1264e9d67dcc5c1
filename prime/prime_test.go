package prime

import (
	"math"
	"math/big"
	"math/rand"
	"slices"
	"testing"

	"cayley/api"
)

// The greatest prime below the limit, and the one before it.
const (
	last     = 999_983
	lastBut1 = 999_979
)

// answer is what most functions return.
type answer struct {
	n int
	e api.Errno
}

func of(n int, e api.Errno) answer { return answer{n, e} }

// equal reports an answer that is not the expected one.
func equal(t *testing.T, name string, got, want answer, args ...int) {
	t.Helper()
	if got != want {
		t.Fatalf("%s%v = %d, error %d, want %d, error %d", name, args, got.n, int(got.e), want.n, int(want.e))
	}
}

// sieve says of the numbers from 0 up to the limit, and some behind it, which are primes below the limit.
func sieve() []bool {
	l := slices.Repeat([]bool{true}, api.MaxPrime)
	l[0], l[1] = false, false
	for q := range l {
		for k := 2 * q; l[q] && k < len(l); k += q {
			l[k] = false
		}
	}
	return append(l, make([]bool, 100)...)
}

// ends are numbers at the ends of int, and around other bounds.
func ends() []int {
	return []int{
		math.MinInt, math.MinInt + 1, math.MinInt + 2, -1 << 32, -1_000_003, -1_000_000, -last, -9, -7, -3, -2, -1, 0, 1, 2, 3, 4, 5, 6, 7, 8, 9, 10,
		lastBut1, last - 1, last, last + 1, 1_000_000, 1_000_003, 999_999_937, 1_000_000_000, 1<<32 + 2, 1<<32 + 3, math.MaxInt - 1, math.MaxInt,
	}
}

// TestExamples tests the chapter's examples.
func TestExamples(t *testing.T) {
	for n, is := range map[int]bool{2: true, 1: false, 999983: true, 1000003: false} {
		if Is(n) != is {
			t.Errorf("Is(%d) = %v", n, !is)
		}
	}
	for _, x := range []struct {
		name      string
		got, want answer
	}{
		{"Next(7)", of(Next(7)), answer{11, 0}}, {"Next(-5)", of(Next(-5)), answer{2, 0}}, {"Next(999983)", of(Next(999983)), answer{0, api.ErrRange}},
		{"Mod(-1, 7)", of(Mod(-1, 7)), answer{6, 0}}, {"Inv(3, 7)", of(Inv(3, 7)), answer{5, 0}}, {"Inv(7, 7)", of(Inv(7, 7)), answer{0, api.ErrZero}},
		{"Pow(3, -2, 7)", of(Pow(3, -2, 7)), answer{4, 0}}, {"Pow(0, 0, 7)", of(Pow(0, 0, 7)), answer{1, 0}}, {"Order(2, 7)", of(Order(2, 7)), answer{3, 0}},
		{"Root(2)", of(Root(2)), answer{1, 0}}, {"Root(7)", of(Root(7)), answer{3, 0}}, {"Root(23)", of(Root(23)), answer{5, 0}}, {"Root(41)", of(Root(41)), answer{6, 0}},
		{"Log(6, 7)", of(Log(6, 7)), answer{3, 0}}, {"Log(1, 2)", of(Log(1, 2)), answer{0, 0}},
		{"Sqrt(2, 7)", of(Sqrt(2, 7)), answer{3, 0}}, {"Sqrt(3, 7)", of(Sqrt(3, 7)), answer{0, api.ErrNone}},
		{"Symbol(2, 7)", of(Symbol(2, 7)), answer{1, 0}}, {"Symbol(3, 7)", of(Symbol(3, 7)), answer{-1, 0}}, {"Symbol(14, 7)", of(Symbol(14, 7)), answer{0, 0}},
		{"Zeta(3, 7)", of(Zeta(3, 7)), answer{2, 0}}, {"Zeta(4, 7)", of(Zeta(4, 7)), answer{0, api.ErrNone}},
		{"Suitable(84, 25)", of(Suitable(84, 25)), answer{337, 0}}, {"Suitable(6, 7)", of(Suitable(6, 7)), answer{13, 0}}, {"Suitable(6, 6)", of(Suitable(6, 6)), answer{7, 0}},
		{"Suitable(1, 0)", of(Suitable(1, 0)), answer{2, 0}}, {"Inv(1, 9)", of(Inv(1, 9)), answer{0, api.ErrForm}},
	} {
		if x.got != x.want {
			t.Errorf("%s = %d, error %d, want %d, error %d", x.name, x.got.n, int(x.got.e), x.want.n, int(x.want.e))
		}
	}
	for _, x := range []struct {
		n    int
		want [][2]int
		e    api.Errno
	}{{360, [][2]int{{2, 3}, {3, 2}, {5, 1}}, api.OK}, {1, nil, api.OK}, {0, nil, api.ErrRange}} {
		if l, e := Factors(x.n); e != x.e || !slices.Equal(l, x.want) {
			t.Errorf("Factors(%d) = %v, error %d", x.n, l, int(e))
		}
	}
}

// TestIs tests P3.1: Is, of all numbers up to the limit, and of some others.
func TestIs(t *testing.T) {
	primes := sieve()
	for n := -1000; n < len(primes); n++ {
		if want := n >= 0 && primes[n]; Is(n) != want {
			t.Fatalf("Is(%d) = %v", n, !want)
		}
	}
	for _, n := range ends() {
		if want := n == 2 || n == 3 || n == 5 || n == 7 || n == lastBut1 || n == last; Is(n) != want {
			t.Errorf("Is(%d) = %v", n, !want)
		}
	}
}

// TestNext tests P3.1: Next, at both ends of the primes and of int.
func TestNext(t *testing.T) {
	primes := sieve()
	for _, from := range []int{-100, 20_000, 500_000, len(primes) - 20_000} {
		for n := from; n < min(from+20_000, len(primes)); n++ {
			want := answer{0, api.ErrRange}
			if i := slices.Index(primes[max(0, n+1):], true); i >= 0 {
				want = answer{max(0, n+1) + i, api.OK}
			}
			equal(t, "Next", of(Next(n)), want, n)
		}
	}
	for _, x := range []struct {
		n    int
		want answer
	}{
		{math.MinInt, answer{2, api.OK}}, {math.MinInt + 1, answer{2, api.OK}}, {-1 << 32, answer{2, api.OK}}, {-1, answer{2, api.OK}}, {0, answer{2, api.OK}}, {1, answer{2, api.OK}}, {2, answer{3, api.OK}}, {3, answer{5, api.OK}},
		{lastBut1 - 1, answer{lastBut1, api.OK}}, {lastBut1, answer{last, api.OK}}, {999_982, answer{999_983, api.OK}}, {999_983, answer{0, api.ErrRange}}, {999_999, answer{0, api.ErrRange}},
		{1_000_000, answer{0, api.ErrRange}}, {1_000_002, answer{0, api.ErrRange}}, {1 << 32, answer{0, api.ErrRange}}, {math.MaxInt - 1, answer{0, api.ErrRange}}, {math.MaxInt, answer{0, api.ErrRange}},
	} {
		equal(t, "Next", of(Next(x.n)), x.want, x.n)
	}
}

// TestFactors tests P3.1 and P3.9: Factors are ascending primes with exponents, and the product of the powers is the number, which leaves no choice.
func TestFactors(t *testing.T) {
	l := []int{999_999_937, 999_999_936, 999_999_938, 999_999_999, 1_000_000_000, 1 << 29, 387_420_489, 31_607 * 31_607, 31_601 * 31_607, 2 * 499_999_993, last * 997, last * 1000, lastBut1 * 1000, 223_092_870}
	for n := 1; n <= 30_000; n++ {
		l = append(l, n)
	}
	r := rand.New(rand.NewSource(31))
	for range 2000 {
		l = append(l, 1+r.Intn(1_000_000_000))
	}
	for _, n := range l {
		factors, e := Factors(n)
		product, before := 1, 1
		for _, f := range factors {
			if f[0] <= before || !big.NewInt(int64(f[0])).ProbablyPrime(1) || f[1] < 1 {
				t.Fatalf("Factors(%d) = %v", n, factors)
			}
			before = f[0]
			for range f[1] {
				product *= f[0]
			}
		}
		if e != api.OK || product != n {
			t.Fatalf("Factors(%d) = %v, error %d", n, factors, int(e))
		}
	}
}

// TestFactorsOf tests P3.1: some single factorizations.
func TestFactorsOf(t *testing.T) {
	for _, x := range []struct {
		n    int
		want [][2]int
	}{
		{1, nil}, {2, [][2]int{{2, 1}}}, {3, [][2]int{{3, 1}}}, {4, [][2]int{{2, 2}}}, {9, [][2]int{{3, 2}}}, {2 * 49, [][2]int{{2, 1}, {7, 2}}}, {last, [][2]int{{last, 1}}}, {1_000_003, [][2]int{{1_000_003, 1}}},
		{999_999_937, [][2]int{{999_999_937, 1}}}, {1_000_000_000, [][2]int{{2, 9}, {5, 9}}}, {999_002_449, [][2]int{{31_607, 2}}},
	} {
		if l, e := Factors(x.n); e != api.OK || !slices.Equal(l, x.want) {
			t.Errorf("Factors(%d) = %v, error %d, want %v", x.n, l, int(e), x.want)
		}
	}
}

// TestFactorsRange tests P3.1: numbers that have no Factors.
func TestFactorsRange(t *testing.T) {
	for _, n := range []int{0, -1, -2, -360, 1_000_000_001, 1 << 32, 1<<32 + 1, 999_966_000_289, math.MinInt, math.MinInt + 1, math.MaxInt, math.MaxInt - 1} {
		if l, e := Factors(n); e != api.ErrRange || len(l) > 0 {
			t.Errorf("Factors(%d) = %v, error %d", n, l, int(e))
		}
	}
}

// TestFactorsNew tests that lists of Factors share no memory (R4).
func TestFactorsNew(t *testing.T) {
	a, _ := Factors(360)
	b, _ := Factors(360)
	a[0], a[1], a[2] = [2]int{}, [2]int{}, [2]int{}
	c, _ := Factors(360)
	if want := [][2]int{{2, 3}, {3, 2}, {5, 1}}; !slices.Equal(b, want) || !slices.Equal(c, want) {
		t.Errorf("Factors(360) = %v, then %v", b, c)
	}
}

// TestSuitable tests P3.5 for small numbers, and at both ends of the primes, by trying all primes.
func TestSuitable(t *testing.T) {
	primes := sieve()
	try := func(e, m int) {
		want := answer{0, api.ErrNone}
		for q := 1; q < len(primes); q += e {
			if q > m && primes[q] {
				want = answer{q, api.OK}
				break
			}
		}
		equal(t, "Suitable", of(Suitable(e, m)), want, e, m)
	}
	for e := 1; e <= 150; e++ {
		for m := range 150 {
			try(e, m)
		}
		for m := last - 3; m < 1_000_010; m++ {
			try(e, m)
		}
	}
	r := rand.New(rand.NewSource(32))
	for range 3000 {
		try(1+r.Intn(1_000_010), r.Intn(1_000_010))
		try(1+r.Intn(5000), r.Intn(1_000_010))
		try(400_000+r.Intn(600_010), r.Intn(10))
	}
}

// TestSuitableBounds tests P3.5: its errors, and the bounds of its arguments.
func TestSuitableBounds(t *testing.T) {
	for _, x := range []struct {
		e, m int
		want answer
	}{
		{1, 0, answer{2, api.OK}}, {1, 1, answer{2, api.OK}}, {1, 2, answer{3, api.OK}}, {2, 0, answer{3, api.OK}}, {3, 0, answer{7, api.OK}}, {1, last - 1, answer{last, api.OK}}, {2, last - 1, answer{last, api.OK}}, {1, last, answer{0, api.ErrNone}},
		{last - 1, 0, answer{last, api.OK}}, {last - 1, last - 1, answer{last, api.OK}}, {last - 1, last, answer{0, api.ErrNone}}, {(last - 1) / 2, 0, answer{last, api.OK}}, {last, 0, answer{0, api.ErrNone}}, {1_000_002, 0, answer{0, api.ErrNone}},
		{999_999, 0, answer{0, api.ErrNone}}, {1_000_000, 0, answer{0, api.ErrNone}}, {1, 999_999, answer{0, api.ErrNone}}, {1, 1_000_000, answer{0, api.ErrNone}}, {1, 1_000_002, answer{0, api.ErrNone}}, {1, math.MaxInt, answer{0, api.ErrNone}}, {1, math.MaxInt - 1, answer{0, api.ErrNone}},
		{math.MaxInt, 0, answer{0, api.ErrNone}}, {math.MaxInt - 1, 1, answer{0, api.ErrNone}}, {math.MaxInt, math.MaxInt, answer{0, api.ErrNone}}, {1 << 32, 0, answer{0, api.ErrNone}}, {1 << 62, 1 << 62, answer{0, api.ErrNone}},
		{0, 0, answer{0, api.ErrRange}}, {0, 7, answer{0, api.ErrRange}}, {-1, 0, answer{0, api.ErrRange}}, {-6, 7, answer{0, api.ErrRange}}, {math.MinInt, 0, answer{0, api.ErrRange}}, {math.MinInt, math.MaxInt, answer{0, api.ErrRange}}, {0, last, answer{0, api.ErrRange}},
		{1, -1, answer{0, api.ErrRange}}, {6, -7, answer{0, api.ErrRange}}, {1, math.MinInt, answer{0, api.ErrRange}}, {math.MaxInt, math.MinInt, answer{0, api.ErrRange}}, {math.MaxInt, -1, answer{0, api.ErrRange}}, {math.MinInt, math.MinInt, answer{0, api.ErrRange}},
	} {
		equal(t, "Suitable", of(Suitable(x.e, x.m)), x.want, x.e, x.m)
	}
}

// TestIterator tests that the iterator can be run twice, and broken off.
func TestIterator(t *testing.T) {
	l := factors(360)
	for range 2 {
		sum := 0
		for q, k := range l {
			sum += 100*q + k
			if q == 3 {
				break
			}
		}
		if sum != 505 {
			t.Errorf("the factors 2 and 3 of 360 give %d", sum)
		}
	}
}
