package cyclo

import (
	"math"
	"slices"
	"testing"

	"cayley/api"
)

// faulty are numbers that Check does not accept, some with several faults, and their errors.
func faulty() []faultyNumber {
	const most = 10_000_000
	l := []faultyNumber{
		{api.Cyc{}, api.ErrRange}, {num(1), api.ErrForm}, {num(2), api.ErrForm}, {num(105), api.ErrForm}, {num(119), api.ErrForm}, {num(120), api.ErrForm}, {num(1, 0, 0), api.ErrForm}, {num(1, 5, 0), api.ErrForm}, {num(2, 1, 1), api.ErrForm}, {num(2, 1), api.ErrForm}, {num(2, 0), api.ErrForm},
		{num(3, 1), api.ErrForm}, {num(3, 0, 1, 0), api.ErrForm}, {num(3, 5, 0), api.ErrForm}, {num(6, 1, 1), api.ErrForm}, {num(6, 0, 1), api.ErrForm}, {num(6, most, most), api.ErrForm}, {num(12, 1, 0, 1, 0), api.ErrForm}, {num(12, 0, 0, 0, 1), api.ErrForm}, {num(12, 0, 1, 0), api.ErrForm}, {num(12, 0, 1, 0, 0, 0), api.ErrForm},
		{num(1, most+1), api.ErrOver}, {num(1, -most-1), api.ErrOver}, {num(3, 0, most+1), api.ErrOver}, {num(3, -most-1, 1), api.ErrOver}, {num(5, 1, most+1, 0, 0), api.ErrOver},
		{num(3, most+1, 0), api.ErrOver}, {num(6, most+1, 1), api.ErrOver}, {num(6, 0, -most-1), api.ErrOver}, {num(2, most+1), api.ErrOver}, {num(4, most+1, 0), api.ErrOver}, // They are not canonical, either.
		{num(1, most+1, 0), api.ErrForm}, {num(3, most+1), api.ErrForm}, {num(3, 0, 1, most+1), api.ErrForm}, {num(6, most+1), api.ErrForm}, {num(120, most+1), api.ErrForm}, // Their length is wrong, too.
	}
	for _, n := range badOrders() {
		l = append(l, faultyNumber{num(n), api.ErrRange}, faultyNumber{num(n, 1), api.ErrRange}, faultyNumber{num(n, most+1, 0), api.ErrRange}, faultyNumber{num(n, make([]int, 1001)...), api.ErrRange})
	}
	for _, x := range overs() {
		l = append(l, faultyNumber{num(1, x), api.ErrOver}, faultyNumber{num(4, x, 1), api.ErrOver}, faultyNumber{num(4, 1, x), api.ErrOver}, faultyNumber{num(4, x, 0), api.ErrOver}, faultyNumber{num(4, x), api.ErrForm}, faultyNumber{num(10, x, 0, 0, x), api.ErrOver})
	}
	return l
}

type faultyNumber struct {
	a api.Cyc
	e api.Errno
}

// TestFaulty tests P6.1: the error of Check, and that all functions return it before any other of their own.
func TestFaulty(t *testing.T) {
	good := []api.Cyc{num(1, 0), num(1, 10_000_000), num(7, 0, 1, 0, 0, 0, 0), must(t)(Root(113, 5)), must(t)(Root(120, 7))}
	for _, x := range faulty() {
		wantCheck(t, x.a, x.e)
		fails := func(name string) func(a api.Cyc, e api.Errno) {
			return func(a api.Cyc, e api.Errno) {
				t.Helper()
				want(t, name, a, e, api.Cyc{}, x.e)
			}
		}
		for _, b := range good {
			fails("Add")(Add(x.a, b))
			fails("Add")(Add(b, x.a))
			fails("Mul")(Mul(x.a, b))
			fails("Mul")(Mul(b, x.a))
		}
		for _, k := range []int{0, 1, -1, 2, 3, x.a.N, 10_000_000, 10_000_001, -10_000_001, math.MinInt, math.MaxInt} {
			fails("Scale")(Scale(x.a, k))
			fails("Quot")(Quot(x.a, k))
			fails("Galois")(Galois(x.a, k))
		}
		fails("Conj")(Conj(x.a))
	}
}

// TestTwoFaulty tests that of two numbers with faults the left one is looked at first.
func TestTwoFaulty(t *testing.T) {
	l := faulty()
	for _, x := range l {
		for _, y := range l {
			a, e := Add(x.a, y.a)
			want(t, "Add of two", a, e, api.Cyc{}, x.e)
			a, e = Mul(x.a, y.a)
			want(t, "Mul of two", a, e, api.Cyc{}, x.e)
		}
	}
}

// TestLengths tests P6.1: all numbers of coefficients but the right one.
func TestLengths(t *testing.T) {
	for n := 1; n <= 120; n++ {
		size := len(units(n))
		for i := range 125 {
			c := slices.Repeat([]int{1}, i)
			if i != size {
				wantCheck(t, num(n, c...), api.ErrForm)
			} else if e := Check(num(n, c...)); e != api.OK && e != api.ErrForm {
				t.Errorf("Check of %d coefficients with %d is error %d", i, n, int(e))
			}
		}
		wantCheck(t, num(n, make([]int, 1001)...), api.ErrForm)
	}
}

// TestMemory tests R4: arguments stay as they were, and what is written into a result changes neither them nor another result.
func TestMemory(t *testing.T) {
	a, b := num(12, 5, 1, 0, -4), num(3, 7, 2)
	c := []int{3, 1, 4, 1, 5, 9, 2, 6}
	one := func(c []int, e api.Errno) (api.Cyc, api.Errno) { return num(0, c...), e }
	calls := map[string]func() (api.Cyc, api.Errno){
		"Phi 1": func() (api.Cyc, api.Errno) { return one(Phi(1)) }, "Phi 12": func() (api.Cyc, api.Errno) { return one(Phi(12)) }, "Phi 7": func() (api.Cyc, api.Errno) { return one(Phi(7)) },
		"Make": func() (api.Cyc, api.Errno) { return Make(9, c) }, "Make 1": func() (api.Cyc, api.Errno) { return Make(1, c[:1]) }, "Make full": func() (api.Cyc, api.Errno) { return Make(12, a.C) },
		"Root": func() (api.Cyc, api.Errno) { return Root(12, 1) }, "Int": func() (api.Cyc, api.Errno) { return Int(5) },
		"Add": func() (api.Cyc, api.Errno) { return Add(a, b) }, "Add 0": func() (api.Cyc, api.Errno) { return Add(a, num(1, 0)) }, "0 Add": func() (api.Cyc, api.Errno) { return Add(num(1, 0), a) }, "Add same": func() (api.Cyc, api.Errno) { return Add(a, a) },
		"Mul": func() (api.Cyc, api.Errno) { return Mul(a, b) }, "Mul 1": func() (api.Cyc, api.Errno) { return Mul(a, num(1, 1)) }, "1 Mul": func() (api.Cyc, api.Errno) { return Mul(num(1, 1), a) }, "Mul same": func() (api.Cyc, api.Errno) { return Mul(a, a) },
		"Scale": func() (api.Cyc, api.Errno) { return Scale(a, 3) }, "Scale 1": func() (api.Cyc, api.Errno) { return Scale(a, 1) }, "Quot 1": func() (api.Cyc, api.Errno) { return Quot(a, 1) }, "Quot": func() (api.Cyc, api.Errno) { return Quot(a, -1) },
		"Galois": func() (api.Cyc, api.Errno) { return Galois(a, 5) }, "Galois 1": func() (api.Cyc, api.Errno) { return Galois(a, 1) }, "Conj": func() (api.Cyc, api.Errno) { return Conj(a) }, "Conj of an integer": func() (api.Cyc, api.Errno) { return Conj(num(1, 4)) },
	}
	for name, f := range calls {
		result, e := f()
		kept := copyOf(result)
		want(t, name, result, e, kept, api.OK)
		again, e := f()
		want(t, name, again, e, kept, api.OK)
		whole := result.C[:cap(result.C)]
		for i := range whole {
			whole[i] = -77
		}
		want(t, name+" before", again, e, kept, api.OK)
		again, e = f()
		want(t, name+" after", again, e, kept, api.OK)
	}
	Check(a)
	Rational(a)
	Cmp(a, b)
	want(t, "the first number", a, api.OK, num(12, 5, 1, 0, -4), api.OK)
	want(t, "the second number", b, api.OK, num(3, 7, 2), api.OK)
	if !slices.Equal(c, []int{3, 1, 4, 1, 5, 9, 2, 6}) {
		t.Errorf("the list is %v", c)
	}
}

// TestFaultyMemory tests R4: arguments with errors stay as they were, too.
func TestFaultyMemory(t *testing.T) {
	for _, x := range faulty() {
		kept := copyOf(x.a)
		Check(x.a)
		Make(x.a.N, x.a.C)
		Add(x.a, x.a)
		Mul(x.a, x.a)
		Scale(x.a, 2)
		Quot(x.a, 1)
		Galois(x.a, 1)
		Rational(x.a)
		Cmp(x.a, x.a)
		want(t, "the argument", x.a, api.OK, kept, api.OK)
	}
}

// TestPieces tests R4: what stands behind the coefficients of arguments in their memory stays as it was, too.
func TestPieces(t *testing.T) {
	array := []int{0, 1, 5, 2, 9, 9, 9, 9}
	before := slices.Clone(array)
	a, b := num(3, array[:2]...), api.Cyc{N: 4, C: array[2:4]}
	a.C = array[:2]
	want(t, "Add", must(t)(Add(a, b)), api.OK, must(t)(Add(num(3, 0, 1), num(4, 5, 2))), api.OK)
	want(t, "Mul", must(t)(Mul(a, b)), api.OK, must(t)(Mul(num(3, 0, 1), num(4, 5, 2))), api.OK)
	must(t)(Make(3, array[:2]))
	must(t)(Make(12, array[:3]))
	must(t)(Scale(a, 0))
	must(t)(Quot(b, 1))
	must(t)(Galois(a, 2))
	must(t)(Conj(b))
	if !slices.Equal(array, before) {
		t.Errorf("the memory of the arguments is %v", array)
	}
}
