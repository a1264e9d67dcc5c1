package linear

import (
	"math"
	"math/rand"
	"slices"
	"testing"

	"cayley/api"
)

// The moduli that most tests try: the least ones, some others, and the greatest one.
var moduli = []int{2, 3, 5, 7, 61, 67, 101, 9967, 9973}

// of returns a matrix modulo p.
func of(p int, l ...[]int) api.Matrix { return api.Matrix{P: p, Rows: l} }

// five returns a matrix modulo 5.
func five(l ...[]int) api.Matrix { return of(5, l...) }

// rows returns a list of rows.
func rows(l ...[]int) [][]int { return l }

// filled returns m rows of n entries that are all x.
func filled(m, n, x int) [][]int {
	l := make([][]int, m)
	for i := range l {
		l[i] = slices.Repeat([]int{x}, n)
	}
	return l
}

// units returns the rows of the identity.
func units(n int) [][]int {
	l := filled(n, n, 0)
	for i, row := range l {
		row[i] = 1
	}
	return l
}

// mod returns the residue of any int.
func mod(x, p int) int {
	x %= p
	if x < 0 {
		x += p
	}
	return x
}

// copyOf returns rows that share no memory with l.
func copyOf(l [][]int) [][]int {
	var c [][]int
	for _, row := range l {
		c = append(c, slices.Clone(row))
	}
	return c
}

func same(a, b [][]int) bool { return slices.EqualFunc(a, b, slices.Equal[[]int]) }

// random returns m rows of n residues. They are combinations of at most k rows, about half of whose entries are 0, so that pivots lie at odd places.
func random(r *rand.Rand, m, n, k, p int) [][]int {
	source := filled(k, n, 0)
	for _, row := range source {
		for j := range row {
			row[j] = r.Intn(2) * r.Intn(p)
		}
	}
	l := filled(m, n, 0)
	for i, row := range l {
		if i < k {
			copy(row, source[i])
			continue
		}
		for _, other := range source {
			add(row, r.Intn(2)*r.Intn(p), other, p)
		}
	}
	r.Shuffle(m, func(i, j int) { l[i], l[j] = l[j], l[i] })
	return l
}

// add adds k times another row to a row.
func add(row []int, k int, other []int, p int) {
	for i, x := range other {
		row[i] = mod(row[i]+mod(k, p)*mod(x, p), p)
	}
}

// shifted returns rows with the same residues, whose entries are any ints.
func shifted(r *rand.Rand, l [][]int, p int) [][]int {
	c := copyOf(l)
	for _, row := range c {
		for j := range row {
			switch r.Intn(4) {
			case 0:
				row[j] += p * r.Intn(math.MaxInt/p-1)
			case 1:
				row[j] -= p * r.Intn(math.MaxInt/p)
			case 2:
				row[j] -= p
			}
		}
	}
	return c
}

// number returns the number of a row in lexicographic order.
func number(row []int, p int) int {
	k := 0
	for _, x := range row {
		k = k*p + mod(x, p)
	}
	return k
}

// vector returns the row of n entries with a number.
func vector(k, n, p int) []int {
	row := make([]int, n)
	for i := n - 1; i >= 0; i-- {
		row[i] = k % p
		k /= p
	}
	return row
}

// count returns the number of rows of n entries.
func count(n, p int) int {
	k := 1
	for range n {
		k *= p
	}
	return k
}

// span returns which rows, by their numbers, are combinations of a list.
func span(p, n int, l [][]int) []bool {
	in := make([]bool, count(n, p))
	in[0] = true
	for _, row := range l {
		before := slices.Clone(in)
		for k, is := range before {
			for factor := 0; is && factor < p; factor++ {
				sum := vector(k, n, p)
				add(sum, factor, row, p)
				in[number(sum, p)] = true
			}
		}
	}
	return in
}

// isEchelon reports whether a list is echelon, by the words of the chapter.
func isEchelon(l [][]int, p int) bool {
	last := -1
	for i, row := range l {
		pivot := slices.IndexFunc(row, func(x int) bool { return x != 0 })
		if pivot <= last || row[pivot] != 1 || slices.ContainsFunc(row, func(x int) bool { return x < 0 || x >= p }) {
			return false
		}
		for k, other := range l {
			if k != i && other[pivot] != 0 {
				return false
			}
		}
		last = pivot
	}
	return true
}

// textbook returns the basis of a span, column by column, with exchanges of rows.
func textbook(p int, l [][]int) [][]int {
	l = copyOf(l)
	rank := 0
	for j := 0; len(l) > 0 && j < len(l[0]); j++ {
		i := slices.IndexFunc(l[rank:], func(row []int) bool { return mod(row[j], p) != 0 })
		if i < 0 {
			continue
		}
		l[rank], l[rank+i] = l[rank+i], l[rank]
		inverse := 1
		for mod(inverse*mod(l[rank][j], p), p) != 1 {
			inverse++
		}
		add(l[rank], inverse-1, l[rank], p)
		for k, row := range l {
			if k != rank {
				add(row, -mod(row[j], p), l[rank], p)
			}
		}
		rank++
	}
	return l[:rank]
}

// lists calls f with lists of rows of up to 3 entries for the least moduli: all lists of up to 2 rows modulo 2 and 3, and random ones.
func lists(f func(p, n int, l [][]int)) {
	for _, p := range []int{2, 3} {
		for n := 1; n <= 2; n++ {
			f(p, n, nil)
			for i := range count(n, p) {
				f(p, n, rows(vector(i, n, p)))
				for j := range count(n, p) {
					f(p, n, rows(vector(i, n, p), vector(j, n, p)))
				}
			}
		}
	}
	r := rand.New(rand.NewSource(61))
	for _, p := range []int{2, 3, 5, 7} {
		for n := 1; n <= 3; n++ {
			for m := range 6 {
				for k := range n + 1 {
					f(p, n, random(r, m, n, min(k, m), p))
				}
			}
		}
	}
}

// long calls f with random lists of rows of up to 64 entries, among them some of 200 rows.
func long(f func(p, n int, l [][]int)) {
	r := rand.New(rand.NewSource(67))
	for _, p := range []int{2, 3, 61, 9973} {
		for _, x := range [][3]int{{1, 1, 1}, {5, 4, 3}, {4, 8, 4}, {9, 7, 7}, {12, 30, 5}, {30, 12, 11}, {64, 64, 64}, {64, 64, 20}, {200, 64, 63}, {200, 64, 64}, {200, 1, 1}, {200, 10, 0}, {1, 64, 1}, {0, 64, 0}} {
			f(p, x[1], random(r, x[0], x[1], x[2], p))
		}
		f(p, 64, filled(200, 64, p-1))
		f(p, 64, units(64))
		f(p, 64, slices.Concat(units(64)[32:], units(64), filled(3, 64, 0), units(64)[:32]))
	}
}

// must returns a function that gives the value of a result without an error.
func must[T any](t *testing.T) func(x T, e api.Errno) T {
	return func(x T, e api.Errno) T {
		t.Helper()
		if e != api.OK {
			t.Fatalf("error %d", int(e))
		}
		return x
	}
}

// want reports rows that are not the expected ones, or have not the expected error.
func want(t *testing.T, name string, got [][]int, e api.Errno, wanted [][]int, err api.Errno) {
	t.Helper()
	if e != err || !same(got, wanted) {
		t.Fatalf("%s = %v, error %d, want %v, error %d", name, got, int(e), wanted, int(err))
	}
}

// wantRow is want for a row.
func wantRow(t *testing.T, name string, got []int, e api.Errno, wanted []int, err api.Errno) {
	t.Helper()
	want(t, name, rows(got), e, rows(wanted), err)
}

// wantNumber is want for a number.
func wantNumber(t *testing.T, name string, got int, e api.Errno, wanted int, err api.Errno) {
	t.Helper()
	wantRow(t, name, []int{got}, e, []int{wanted}, err)
}

// wantBool is want for a truth value.
func wantBool(t *testing.T, name string, got bool, e api.Errno, wanted bool, err api.Errno) {
	t.Helper()
	if got != wanted || e != err {
		t.Fatalf("%s = %v, error %d, want %v, error %d", name, got, int(e), wanted, int(err))
	}
}

// TestExamples tests the chapter's examples.
func TestExamples(t *testing.T) {
	l := rows([]int{2, 4, 1}, []int{1, 2, 0}, []int{0, 0, 3})
	x, y, z := []int{1, 0, 0}, []int{0, 1, 0}, []int{0, 0, 1}
	b, e := Basis(5, 3, l)
	want(t, "Basis(l)", b, e, rows([]int{1, 2, 0}, z), api.OK)
	n, e := Rank(5, 3, l)
	wantNumber(t, "Rank(l)", n, e, 2, api.OK)
	is, e := In(5, 3, l, []int{3, 1, 4})
	wantBool(t, "In(l; 3 1 4)", is, e, true, api.OK)
	is, e = In(5, 3, l, y)
	wantBool(t, "In(l; 0 1 0)", is, e, false, api.OK)
	b, e = Basis(5, 3, nil)
	want(t, "Basis(no rows)", b, e, nil, api.OK)
	b, e = Sum(5, 3, rows(x), rows(y))
	want(t, "Sum(x; y)", b, e, rows(x, y), api.OK)
	b, e = Meet(5, 3, rows(x, y), rows(y, z))
	want(t, "Meet(x, y; y, z)", b, e, rows(y), api.OK)
	b, e = Meet(5, 3, rows(x), rows(y))
	want(t, "Meet(x; y)", b, e, nil, api.OK)
	a := five([]int{1, 2}, []int{2, 4}, []int{0, 1})
	b, e = Kernel(a)
	want(t, "Kernel(a)", b, e, rows([]int{1, 2, 0}), api.OK)
	v, e := Solve(a, []int{3, 0})
	wantRow(t, "Solve(a; 3 0)", v, e, []int{3, 0, 4}, api.OK)
	v, e = Solve(five([]int{1, 2}), []int{1, 3})
	wantRow(t, "Solve(1 2; 1 3)", v, e, nil, api.ErrNone)
	a = five([]int{2, 0}, []int{0, 3})
	b, e = Eigen(a, 2)
	want(t, "Eigen(a; 2)", b, e, rows([]int{1, 0}), api.OK)
	v, e = Values(a)
	wantRow(t, "Values(a)", v, e, []int{2, 3}, api.OK)
	v, e = Values(five([]int{0, 1}, []int{2, 0}))
	wantRow(t, "Values(0 1, 2 0)", v, e, nil, api.OK)
	b, e = Basis(6, 3, l)
	want(t, "Basis modulo 6", b, e, nil, api.ErrForm)
	b, e = Basis(5, 0, l)
	want(t, "Basis with n 0", b, e, nil, api.ErrRange)
	b, e = Basis(5, 3, rows([]int{1, 2}))
	want(t, "Basis of a row of 2 entries", b, e, nil, api.ErrType)
}

// TestBasis tests P5.1: Basis, Rank and In for spans all of whose rows are known.
func TestBasis(t *testing.T) {
	ok := must[[][]int](t)
	lists(func(p, n int, l [][]int) {
		b, in := ok(Basis(p, n, l)), span(p, n, l)
		if !isEchelon(b, p) || !slices.Equal(span(p, n, b), in) {
			t.Fatalf("Basis(%d, %d, %v) = %v", p, n, l, b)
		}
		k, e := Rank(p, n, l)
		wantNumber(t, "Rank", k, e, len(b), api.OK)
		for i, wanted := range in {
			is, e := In(p, n, l, vector(i, n, p))
			wantBool(t, "In", is, e, wanted, api.OK)
		}
	})
}

// TestLongBasis tests P5.1: Basis, Rank and In for many rows and entries, against another way of elimination.
func TestLongBasis(t *testing.T) {
	r := rand.New(rand.NewSource(71))
	long(func(p, n int, l [][]int) {
		wanted := textbook(p, l)
		b, e := Basis(p, n, l)
		want(t, "Basis", b, e, wanted, api.OK)
		k, e := Rank(p, n, l)
		wantNumber(t, "Rank", k, e, len(wanted), api.OK)
		v := make([]int, n)
		for _, row := range l {
			add(v, r.Intn(p), row, p)
		}
		for range 3 {
			is, e := In(p, n, l, v)
			wantBool(t, "In", is, e, len(textbook(p, append(copyOf(l), v))) == len(wanted), api.OK)
			v[r.Intn(n)]++
		}
	})
}

// TestSumAndMeet tests P5.1: Sum and Meet of spans all of whose rows are known.
func TestSumAndMeet(t *testing.T) {
	ok := must[[][]int](t)
	lists(func(p, n int, a [][]int) {
		var pairs [][][]int
		lists(func(q, m int, b [][]int) {
			if q == p && m == n && len(a)+len(b) < 6 {
				pairs = append(pairs, b)
			}
		})
		in := span(p, n, a)
		for _, b := range pairs {
			sum, meet := ok(Sum(p, n, a, b)), ok(Meet(p, n, a, b))
			both := span(p, n, b)
			if !isEchelon(sum, p) || !slices.Equal(span(p, n, sum), span(p, n, slices.Concat(a, b))) {
				t.Fatalf("Sum(%d, %d, %v, %v) = %v", p, n, a, b, sum)
			}
			for i, is := range in {
				both[i] = both[i] && is
			}
			if !isEchelon(meet, p) || !slices.Equal(span(p, n, meet), both) {
				t.Fatalf("Meet(%d, %d, %v, %v) = %v", p, n, a, b, meet)
			}
		}
	})
}

// TestLongSumAndMeet tests P5.1: Sum and Meet of many rows and entries, among them spans that are the same, that meet in zero alone, and of which one lies in the other.
func TestLongSumAndMeet(t *testing.T) {
	r := rand.New(rand.NewSource(73))
	long(func(p, n int, l [][]int) {
		b := textbook(p, l)
		for i := range 4 {
			some := l[:len(l)*i/3]
			sum, e := Sum(p, n, some, l)
			want(t, "Sum with a part", sum, e, b, api.OK)
			sum, e = Sum(p, n, l, some)
			want(t, "Sum with a part", sum, e, b, api.OK)
			meet, e := Meet(p, n, some, l)
			want(t, "Meet with a part", meet, e, textbook(p, some), api.OK)
			meet, e = Meet(p, n, l, some)
			want(t, "Meet with a part", meet, e, textbook(p, some), api.OK)
		}
		// A known part of both, and rows with nothing else in common: all come from disjoint parts of one basis.
		k := len(b) / 3
		left, right := mixed(r, b[:2*k], p), mixed(r, slices.Concat(b[2*k:], b[:k]), p)
		meet, e := Meet(p, n, left, right)
		want(t, "Meet", meet, e, b[:k], api.OK)
		meet, e = Meet(p, n, mixed(r, b[k:], p), mixed(r, b[:k], p))
		want(t, "Meet in zero", meet, e, nil, api.OK)
		meet, e = Meet(p, n, l, units(n))
		want(t, "Meet with everything", meet, e, b, api.OK)
		sum, e := Sum(p, n, l, units(n))
		want(t, "Sum with everything", sum, e, units(n), api.OK)
	})
	meet, e := Meet(9973, 64, filled(200, 64, 1), filled(200, 64, 2))
	want(t, "Meet of 200 rows", meet, e, filled(1, 64, 1), api.OK)
	sum, e := Sum(9973, 64, slices.Repeat(units(64)[:1], 200), slices.Repeat(units(64)[1:2], 200))
	want(t, "Sum of 200 rows", sum, e, units(64)[:2], api.OK)
}

// mixed returns rows with the same span in another order, after additions of some to others.
func mixed(r *rand.Rand, l [][]int, p int) [][]int {
	c := copyOf(l)
	for range 3 * len(l) {
		i, j := r.Intn(len(c)), r.Intn(len(c))
		if i != j {
			add(c[i], r.Intn(p), c[j], p)
		}
	}
	r.Shuffle(len(c), func(i, j int) { c[i], c[j] = c[j], c[i] })
	return c
}

// TestNoRows tests P5.1: of no rows the span is the zero row alone, and so it is of rows of zeros.
func TestNoRows(t *testing.T) {
	for _, p := range []int{2, 3, 9973} {
		for _, n := range []int{1, 2, 63, 64} {
			zero, one := make([]int, n), units(n)[n-1]
			for _, l := range [][][]int{nil, {}, rows(zero), filled(200, n, 0), filled(200, n, -p), filled(2, n, 7*p)} {
				b, e := Basis(p, n, l)
				want(t, "Basis", b, e, nil, api.OK)
				k, e := Rank(p, n, l)
				wantNumber(t, "Rank", k, e, 0, api.OK)
				is, e := In(p, n, l, zero)
				wantBool(t, "In of zero", is, e, true, api.OK)
				is, e = In(p, n, l, slices.Repeat([]int{p}, n))
				wantBool(t, "In of multiples of p", is, e, true, api.OK)
				is, e = In(p, n, l, one)
				wantBool(t, "In of another row", is, e, false, api.OK)
				b, e = Sum(p, n, l, rows(one))
				want(t, "Sum", b, e, rows(one), api.OK)
				b, e = Sum(p, n, rows(one), l)
				want(t, "Sum", b, e, rows(one), api.OK)
				b, e = Meet(p, n, l, rows(one))
				want(t, "Meet", b, e, nil, api.OK)
				b, e = Meet(p, n, rows(one), l)
				want(t, "Meet", b, e, nil, api.OK)
				b, e = Meet(p, n, l, nil)
				want(t, "Meet", b, e, nil, api.OK)
			}
		}
	}
}

// TestAnyInts tests that entries stand for their residues, up to both ends of int.
func TestAnyInts(t *testing.T) {
	r := rand.New(rand.NewSource(79))
	ok := must[[][]int](t)
	long(func(p, n int, l [][]int) {
		moved, other := shifted(r, l, p), shifted(r, slices.Concat(units(n)[n/2:], l[:len(l)/2])[:min(len(l), n/2+1)], p)
		b, e := Basis(p, n, moved)
		want(t, "Basis", b, e, ok(Basis(p, n, l)), api.OK)
		b, e = Sum(p, n, other, moved)
		want(t, "Sum", b, e, textbook(p, slices.Concat(other, l)), api.OK)
		b, e = Meet(p, n, other, moved)
		want(t, "Meet", b, e, ok(Meet(p, n, textbook(p, other), l)), api.OK)
		if len(l) > 0 {
			is, e := In(p, n, moved, shifted(r, l, p)[0])
			wantBool(t, "In", is, e, true, api.OK)
		}
	})
	for _, p := range moduli {
		for _, x := range []int{math.MinInt, math.MinInt + 1, -1 << 32, -p - 1, -p, -p + 1, -1, 0, 1, p - 1, p, p + 1, 1 << 32, math.MaxInt - 1, math.MaxInt} {
			isUnit := x%p != 0
			wanted := rows([]int{1, 0})
			if !isUnit {
				wanted = nil
			}
			b, e := Basis(p, 2, rows([]int{x, p}))
			want(t, "Basis of an end", b, e, wanted, api.OK)
			b, e = Basis(p, 2, rows([]int{1, x}))
			want(t, "Basis of 1 and an end", b, e, rows([]int{1, mod(x, p)}), api.OK)
			k, e := Rank(p, 1, rows([]int{x}))
			wantNumber(t, "Rank of an end", k, e, len(wanted), api.OK)
			is, e := In(p, 2, rows([]int{0, 1}), []int{x, x})
			wantBool(t, "In of an end", is, e, !isUnit, api.OK)
			is, e = In(p, 2, rows([]int{x, x}), []int{1, 1})
			wantBool(t, "In the span of an end", is, e, isUnit, api.OK)
			is, e = In(p, 2, rows([]int{1, mod(x, p)}), []int{1, x})
			wantBool(t, "In of an end and its residue", is, e, true, api.OK)
			b, e = Sum(p, 2, rows([]int{1, x}), rows([]int{0, x}))
			if isUnit {
				want(t, "Sum of ends", b, e, units(2), api.OK)
			} else {
				want(t, "Sum of ends", b, e, rows([]int{1, 0}), api.OK)
			}
			b, e = Meet(p, 2, rows([]int{1, x}), rows([]int{1, mod(x, p)}, []int{0, 0}))
			want(t, "Meet of ends", b, e, rows([]int{1, mod(x, p)}), api.OK)
		}
	}
}
