package matrix

import (
	"math"
	"math/rand"
	"slices"
	"testing"

	"cayley/api"
)

// The moduli that most tests try: the least ones, some others, and the greatest one.
var moduli = []int{2, 3, 5, 7, 61, 67, 101, 9967, 9973}

// of returns a matrix modulo p.
func of(p int, rows ...[]int) api.Matrix { return api.Matrix{P: p, Rows: rows} }

// five returns a matrix modulo 5.
func five(rows ...[]int) api.Matrix { return of(5, rows...) }

// filled returns a matrix whose entries are all x.
func filled(m, n, p, x int) api.Matrix {
	rows := make([][]int, m)
	for i := range rows {
		rows[i] = slices.Repeat([]int{x}, n)
	}
	return of(p, rows...)
}

// random returns a matrix of random entries. About half of them are 0, so that pivots lie at odd places.
func random(r *rand.Rand, m, n, p int) api.Matrix {
	a := filled(m, n, p, 0)
	for _, row := range a.Rows {
		for j := range row {
			row[j] = r.Intn(2) * r.Intn(p)
		}
	}
	return a
}

// every calls f with all square matrices of n rows modulo p.
func every(n, p int, f func(a api.Matrix)) {
	count := 1
	for range n * n {
		count *= p
	}
	for k := range count {
		a := filled(n, n, p, 0)
		rest := k
		for _, row := range a.Rows {
			for j := range row {
				row[j] = rest % p
				rest /= p
			}
		}
		f(a)
	}
}

// squareSamples calls f with square matrices: all of the least ones, random ones, and some of 64 rows.
func squareSamples(f func(a api.Matrix)) {
	for _, p := range []int{2, 3, 5} {
		every(1, p, f)
		every(2, p, f)
	}
	every(3, 2, f)
	r := rand.New(rand.NewSource(41))
	for _, p := range moduli {
		for n := 1; n <= 8; n++ {
			for range 5 {
				f(random(r, n, n, p))
			}
		}
		f(random(r, 64, 64, p))
		f(filled(64, 64, p, p-1))
	}
}

// copyOf returns a matrix that shares no memory with a.
func copyOf(a api.Matrix) api.Matrix {
	c := api.Matrix{P: a.P}
	for _, row := range a.Rows {
		c.Rows = append(c.Rows, slices.Clone(row))
	}
	return c
}

func same(a, b api.Matrix) bool {
	return a.P == b.P && slices.EqualFunc(a.Rows, b.Rows, slices.Equal[[]int])
}

// must returns a function that gives the value of a result without an error.
func must[T any](t *testing.T) func(x T, e api.Errno) T {
	return func(x T, e api.Errno) T {
		t.Helper()
		if e != api.OK {
			t.Fatalf("error %d", int(e))
		}
		return x
	}
}

// want reports a matrix that is not the expected one.
func want(t *testing.T, name string, got api.Matrix, e api.Errno, wanted api.Matrix) {
	t.Helper()
	if e != api.OK || !same(got, wanted) {
		t.Fatalf("%s = %v, error %d, want %v", name, got, int(e), wanted)
	}
}

// wantError reports a matrix that has not the expected error, or is not zero.
func wantError(t *testing.T, name string, got api.Matrix, e, wanted api.Errno) {
	t.Helper()
	if e != wanted || got.P != 0 || len(got.Rows) > 0 {
		t.Fatalf("%s = %v, error %d, want error %d", name, got, int(e), int(wanted))
	}
}

// wantNumber reports a number that is not the expected one, or has not the expected error.
func wantNumber(t *testing.T, name string, got int, e api.Errno, n int, wanted api.Errno) {
	t.Helper()
	if got != n || e != wanted {
		t.Fatalf("%s = %d, error %d, want %d, error %d", name, got, int(e), n, int(wanted))
	}
}

// wantList is wantNumber for lists.
func wantList(t *testing.T, name string, got []int, e api.Errno, l []int, wanted api.Errno) {
	t.Helper()
	if !slices.Equal(got, l) || e != wanted {
		t.Fatalf("%s = %v, error %d, want %v, error %d", name, got, int(e), l, int(wanted))
	}
}

// TestExamples tests the chapter's examples.
func TestExamples(t *testing.T) {
	a, b := five([]int{1, 2}, []int{3, 4}), five([]int{0, 1}, []int{1, 0})
	m, e := Mul(a, b)
	want(t, "Mul(a, b)", m, e, five([]int{2, 1}, []int{4, 3}))
	m, e = Add(a, b)
	want(t, "Add(a, b)", m, e, five([]int{1, 3}, []int{4, 4}))
	m, e = Scale(a, -1)
	want(t, "Scale(a, -1)", m, e, five([]int{4, 3}, []int{2, 1}))
	m, e = Turn(a)
	want(t, "Turn(a)", m, e, five([]int{1, 3}, []int{2, 4}))
	l, e := Apply([]int{1, 6}, a)
	wantList(t, "Apply(1 6; a)", l, e, []int{4, 1}, api.OK)
	n, e := Det(a)
	wantNumber(t, "Det(a)", n, e, 3, api.OK)
	n, e = Trace(a)
	wantNumber(t, "Trace(a)", n, e, 0, api.OK)
	l, e = Poly(a)
	wantList(t, "Poly(a)", l, e, []int{3, 0, 1}, api.OK)
	m, e = Inv(a)
	want(t, "Inv(a)", m, e, five([]int{3, 1}, []int{4, 2}))
	m, e = Pow(a, 2)
	want(t, "Pow(a, 2)", m, e, five([]int{2, 0}, []int{0, 2}))
	n, e = Order(b)
	wantNumber(t, "Order(b)", n, e, 2, api.OK)
	n, e = Order(a)
	wantNumber(t, "Order(a)", n, e, 8, api.OK)
	m, e = Pow(a, 0)
	want(t, "Pow(a, 0)", m, e, five([]int{1, 0}, []int{0, 1}))
	m, e = Inv(five([]int{1, 2}, []int{2, 4}))
	wantError(t, "Inv(1 2, 2 4)", m, e, api.ErrSingular)
	q, e := Perm(b)
	wantList(t, "Perm(b)", q[:7], e, []int{0, 5, 10, 15, 20, 1, 6}, api.OK)
	m, e = Mul(a, five([]int{1, 2, 3}))
	wantError(t, "Mul(a, 1 2 3)", m, e, api.ErrType)
	n, e = Order(of(9973, []int{1, 1}, []int{0, 1}))
	wantNumber(t, "Order(1 1, 0 1)", n, e, 9973, api.OK)
	for _, x := range []struct {
		a api.Matrix
		e api.Errno
	}{{of(4, []int{1, 2}, []int{3, 0}), api.ErrForm}, {five(), api.ErrRange}, {five([]int{1, 2}, []int{3}), api.ErrForm}} {
		wantNumber(t, "Check", 0, Check(x.a), 0, x.e)
	}
}

// badModuli are no moduli.
func badModuli() []int {
	return []int{math.MinInt, math.MinInt + 1, -1 << 32, -9973, -5, -2, -1, 0, 1, 4, 6, 9, 15, 25, 9409, 9971, 9972, 9974, 9999, 10_000, 10_001, 10_007, 999_983, 1_000_003, 1 << 32, 1<<32 + 5, math.MaxInt - 1, math.MaxInt}
}

// TestCheckModulus tests P4.1: all moduli up to the bound, and others.
func TestCheckModulus(t *testing.T) {
	for p := -10; p < 10_100; p++ {
		divisor := 2
		for divisor < p && p%divisor != 0 {
			divisor++
		}
		wanted := api.ErrForm
		if divisor == p && p < 10_000 {
			wanted = api.OK
		}
		wantNumber(t, "Check", p, Check(of(p, []int{0})), p, wanted)
		m, e := One(1, p)
		if e != wanted || wanted == api.OK && !same(m, of(p, []int{1})) {
			t.Fatalf("One(1, %d) = %v, error %d", p, m, int(e))
		}
	}
	for _, p := range badModuli() {
		wantNumber(t, "Check", p, Check(of(p, []int{0})), p, api.ErrForm)
		// The modulus is looked at first.
		for _, rows := range [][][]int{nil, {{}}, {{-1}}, {{1}, {1, 2}}, filled(65, 65, 2, 0).Rows} {
			wantNumber(t, "Check", p, Check(of(p, rows...)), p, api.ErrForm)
		}
	}
}

// TestCheckSizes tests P4.1: the numbers of rows and of their entries, and which error comes first.
func TestCheckSizes(t *testing.T) {
	for m := range 67 {
		for n := range 67 {
			wanted := api.OK
			if m < 1 || m > 64 || n < 1 || n > 64 {
				wanted = api.ErrRange
			}
			for _, p := range []int{2, 9973} {
				if e := Check(filled(m, n, p, p-1)); e != wanted {
					t.Fatalf("Check of %d rows of %d entries = %d, want %d", m, n, int(e), int(wanted))
				}
			}
		}
	}
	long := make([]int, 65)
	for _, x := range []struct {
		name string
		a    api.Matrix
		e    api.Errno
	}{
		{"no rows", of(2), api.ErrRange}, {"a nil row", of(2, nil), api.ErrRange}, {"a first row without entries, and a longer one", of(2, nil, []int{1}), api.ErrRange},
		{"a first row of 65 entries, and a shorter one", of(2, long, []int{1}), api.ErrRange}, {"a first row of 65 entries, with a wrong one", of(2, append([]int{9}, long[1:]...)), api.ErrRange},
		{"65 rows, with wrong entries", filled(65, 1, 2, 9), api.ErrRange}, {"65 rows of different lengths", of(2, append(filled(64, 1, 2, 0).Rows, []int{0, 0})...), api.ErrRange},
		{"a later row without entries", of(2, []int{1}, nil), api.ErrForm}, {"a later row of 65 entries", of(2, []int{1}, long), api.ErrForm}, {"a later row that is shorter", of(2, []int{1, 0}, []int{1, 1}, []int{1}), api.ErrForm}, {"a later row that is longer", of(2, []int{1, 0}, []int{1, 1, 1}), api.ErrForm},
		{"64 rows, the last one shorter", of(2, append(filled(63, 64, 2, 1).Rows, long[:63])...), api.ErrForm},
	} {
		if e := Check(x.a); e != x.e {
			t.Errorf("Check of %s = %d, want %d", x.name, int(e), int(x.e))
		}
	}
}

// TestCheckEntries tests P4.1: entries at all places, around the ends of the residues and of int.
func TestCheckEntries(t *testing.T) {
	for _, p := range []int{2, 3, 5, 9973} {
		for _, x := range []int{math.MinInt, -1 << 32, -p, -1, 0, 1, p - 1, p, p + 1, 2 * p, 1 << 32, math.MaxInt} {
			wanted := api.ErrForm
			if x >= 0 && x < p {
				wanted = api.OK
			}
			for i := range 3 {
				for j := range 4 {
					a := filled(3, 4, p, p-1)
					a.Rows[i][j] = x
					if e := Check(a); e != wanted {
						t.Fatalf("Check(%v) = %d, want %d", a, int(e), int(wanted))
					}
				}
			}
		}
	}
}

// TestOne tests P4.1: One, its errors, and which of them comes first.
func TestOne(t *testing.T) {
	for _, p := range []int{2, 3, 9973} {
		for n := 1; n <= 64; n++ {
			m, e := One(n, p)
			if e != api.OK || Check(m) != api.OK || m.P != p || len(m.Rows) != n || len(m.Rows[0]) != n {
				t.Fatalf("One(%d, %d) = %v, error %d", n, p, m, int(e))
			}
			for i, row := range m.Rows {
				for j, x := range row {
					if (x == 1) != (i == j) || x < 0 || x > 1 {
						t.Fatalf("One(%d, %d) = %v", n, p, m)
					}
				}
			}
		}
		for _, n := range []int{math.MinInt, -64, -1, 0, 65, 66, 1 << 32, math.MaxInt} {
			m, e := One(n, p)
			wantError(t, "One", m, e, api.ErrRange)
		}
	}
	for _, p := range badModuli() {
		for _, n := range []int{math.MinInt, -1, 0, 1, 2, 64, 65, math.MaxInt} {
			m, e := One(n, p)
			wantError(t, "One", m, e, api.ErrForm)
		}
	}
}
