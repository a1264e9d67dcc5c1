package matrix

import (
	"math/rand"
	"testing"

	"cayley/api"
)

// blocks returns the matrix that has the given ones along its diagonal, and otherwise zeros.
func blocks(l ...api.Matrix) api.Matrix {
	n := 0
	for _, b := range l {
		n += len(b.Rows)
	}
	a := filled(n, n, l[0].P, 0)
	n = 0
	for _, b := range l {
		for i, row := range b.Rows {
			copy(a.Rows[n+i][n:], row)
		}
		n += len(b.Rows)
	}
	return a
}

// cycle returns the matrix of a cyclic permutation of n vectors, which has the order n.
func cycle(n, p int) api.Matrix {
	a := filled(n, n, p, 0)
	for i, row := range a.Rows {
		row[(i+1)%n] = 1
	}
	return a
}

// jordan returns the matrix with ones on the diagonal and above it: its order is the least power of p that is not less than n.
func jordan(n, p int) api.Matrix {
	a := filled(n, n, p, 0)
	for i, row := range a.Rows {
		row[i] = 1
		if i+1 < n {
			row[i+1] = 1
		}
	}
	return a
}

// cyclic returns a matrix of n rows modulo p whose order is a given number that divides p^n-1: a power of one that makes the field of p^n elements cyclic.
func cyclic(t *testing.T, n, p, order int) api.Matrix {
	t.Helper()
	size := 1
	for range n {
		size *= p
	}
	one := must[api.Matrix](t)(One(n, p))
	r := rand.New(rand.NewSource(47))
	for range 10_000 {
		a := random(r, n, n, p)
		if must[int](t)(Det(a)) == 0 || !same(must[api.Matrix](t)(Pow(a, size-1)), one) {
			continue
		}
		m := must[api.Matrix](t)(Pow(a, (size-1)/order))
		least := true
		for q := 2; q <= order; q++ {
			least = least && (order%q != 0 || !same(must[api.Matrix](t)(Pow(m, order/q)), one))
		}
		if least {
			return m
		}
	}
	t.Fatalf("no matrix of %d rows modulo %d of the order %d", n, p, order)
	return one
}

// slowOrder returns the order, or 0 if it is greater than 10,000, by trying all powers.
func slowOrder(t *testing.T, a api.Matrix) int {
	ok := must[api.Matrix](t)
	one := ok(One(len(a.Rows), a.P))
	power := a
	for k := 1; k <= 10_000; k++ {
		if same(power, one) {
			return k
		}
		power = ok(Mul(power, a))
	}
	return 0
}

// TestOrder tests P4.3: Order, by trying all powers of small matrices.
func TestOrder(t *testing.T) {
	try := func(a api.Matrix) {
		n, e := Order(a)
		if must[int](t)(Det(a)) == 0 {
			wantNumber(t, "Order", n, e, 0, api.ErrSingular)
		} else if k := slowOrder(t, a); k > 0 {
			wantNumber(t, "Order", n, e, k, api.OK)
		} else {
			wantNumber(t, "Order", n, e, 0, api.ErrOver)
		}
	}
	for _, p := range []int{2, 3, 5, 7} {
		every(1, p, try)
		every(2, p, try)
	}
	every(3, 2, try)
	every(3, 3, try)
	r := rand.New(rand.NewSource(48))
	for _, p := range []int{2, 3, 5, 11, 101, 9973} {
		for range 12 {
			n := 1 + r.Intn(4)
			try(random(r, n, n, p))
		}
	}
}

// TestOrders tests P4.3: Order of matrices whose order is known, around the bound of 10,000 among them.
func TestOrders(t *testing.T) {
	for _, x := range []struct {
		name string
		a    api.Matrix
		n    int
	}{
		{"1", of(2, []int{1}), 1}, {"-1", of(9973, []int{9972}), 2}, {"64 rows modulo 2", jordan(64, 2), 64}, {"33 rows modulo 2", jordan(33, 2), 64}, {"64 rows modulo 7", jordan(64, 7), 343}, {"50 rows modulo 7", jordan(50, 7), 343}, {"49 rows modulo 7", jordan(49, 7), 49},
		{"a cycle of 64", cycle(64, 9973), 64}, {"minus a cycle of 63", scaled(t, cycle(63, 5), -1), 126}, {"cycles of 4 and 6", blocks(cycle(4, 3), cycle(6, 3)), 12}, {"a Jordan block behind a cycle", blocks(cycle(6, 5), jordan(6, 5)), 150},
		{"64 rows modulo 9973", jordan(64, 9973), 9973}, {"the root of 9973", cyclic(t, 1, 9973, 9972), 9972},
		{"cycles of 4, 9, 25 and 11", blocks(cycle(4, 2), cycle(9, 2), cycle(25, 2), cycle(11, 2)), 9900},
		{"a cycle in the field of 1249^2 elements", cyclic(t, 2, 1249, 10_000), 10_000}, {"the same behind others", blocks(cycle(4, 1249), cycle(25, 1249), cyclic(t, 2, 1249, 10_000), cycle(16, 1249)), 10_000}, {"16 and 625", blocks(cycle(16, 1249), cyclic(t, 2, 1249, 625)), 10_000},
		{"73 and 137", blocks(jordan(2, 137), cyclic(t, 3, 137, 73)), 0}, {"137 and 73", blocks(cyclic(t, 3, 137, 73), jordan(2, 137)), 0}, {"6 and 1667", blocks(cycle(6, 1667), jordan(2, 1667)), 0}, {"cycles of 3, 5, 23 and 29", blocks(cycle(3, 2), cycle(5, 2), cycle(23, 2), cycle(29, 2)), 0},
		{"cycles of 2, 5, 7, 11 and 13", blocks(cycle(2, 3), cycle(5, 3), cycle(7, 3), cycle(11, 3), cycle(13, 3)), 0}, {"9973 and a sign", blocks(jordan(63, 9973), of(9973, []int{9972})), 0}, {"a sign and 9973", blocks(of(9973, []int{9972}), jordan(63, 9973)), 0}, {"all of the field of 9973^2", cyclic(t, 2, 9973, 9973*9973-1), 0},
	} {
		n, e := Order(x.a)
		if x.n == 0 {
			wantNumber(t, "Order of "+x.name, n, e, 0, api.ErrOver)
		} else {
			wantNumber(t, "Order of "+x.name, n, e, x.n, api.OK)
		}
	}
	one := must[api.Matrix](t)(One(64, 2))
	n, e := Order(one)
	wantNumber(t, "Order of the identity of 64 rows", n, e, 1, api.OK)
}

// scaled returns k times a.
func scaled(t *testing.T, a api.Matrix, k int) api.Matrix { return must[api.Matrix](t)(Scale(a, k)) }

// TestOrderSingular tests P4.3: Order of singular matrices, also where a vector has no period.
func TestOrderSingular(t *testing.T) {
	for _, p := range moduli {
		for _, a := range []api.Matrix{filled(1, 1, p, 0), filled(64, 64, p, 0), filled(64, 64, p, 1), blocks(jordan(2, p), of(p, []int{0})), blocks(of(p, []int{0}), cycle(5, p)), of(p, []int{0, 1}, []int{0, 0}), of(p, []int{1, 0}, []int{1, 0})} {
			n, e := Order(a)
			wantNumber(t, "Order", n, e, 0, api.ErrSingular)
		}
	}
}

// TestOrderConjugate tests P4.3: conjugate matrices have the same order, here of 64 rows in general position.
func TestOrderConjugate(t *testing.T) {
	ok := must[api.Matrix](t)
	r := rand.New(rand.NewSource(49))
	for _, p := range []int{2, 3, 5, 9973} {
		a := blocks(cycle(7, p), cycle(9, p), cycle(48, p))
		b := ok(Mul(triangle(r, 64, p, true), triangle(r, 64, p, false)))
		n, e := Order(ok(Mul(ok(Inv(b)), ok(Mul(a, b)))))
		wantNumber(t, "Order", n, e, 1008, api.OK)
		c := ok(Mul(ok(Inv(b)), ok(Mul(blocks(cycle(5, p), cycle(7, p), cycle(9, p), cycle(11, p), cycle(32, p)), b))))
		n, e = Order(c)
		wantNumber(t, "Order", n, e, 0, api.ErrOver)
	}
}
