package prime

import (
	"math"
	"testing"

	"cayley/api"
)

// TestRoot tests P3.3: Root, by trying all residues.
func TestRoot(t *testing.T) {
	for _, p := range below(2000) {
		equal(t, "Root", of(Root(p)), answer{tried(p).root, api.OK}, p)
	}
	// The roots of 191, 409 and 760,321 are greater than those of all moduli before them, and the last one is the greatest of all.
	for p, r := range map[int]int{2: 1, 3: 2, 5: 2, 191: 19, 409: 21, 65537: 3, 760321: 73, last: 5} {
		equal(t, "Root", of(Root(p)), answer{r, api.OK}, p)
	}
}

// TestZeta tests P3.3: Zeta is a power of the root and has its order, or there is none.
func TestZeta(t *testing.T) {
	for _, p := range below(130) {
		f := tried(p)
		for e := -3; e <= 2*p; e++ {
			want := answer{0, api.ErrRange}
			if e > 0 {
				want.e = api.ErrNone
			}
			if e > 0 && (p-1)%e == 0 {
				want = answer{f.powers[(p-1)/e%(p-1)], api.OK}
				equal(t, "Order", of(Order(want.n, p)), answer{e, api.OK}, want.n, p)
			}
			equal(t, "Zeta", of(Zeta(e, p)), want, e, p)
		}
	}
}

// TestZetaBounds tests P3.3: the bounds of the order, and its errors.
func TestZetaBounds(t *testing.T) {
	for _, p := range []int{2, 3, 7, 65537, last} {
		r, _ := Root(p)
		for _, x := range []struct {
			e    int
			want answer
		}{
			{0, answer{0, api.ErrRange}}, {-1, answer{0, api.ErrRange}}, {1 - p, answer{0, api.ErrRange}}, {math.MinInt, answer{0, api.ErrRange}}, {math.MinInt + 1, answer{0, api.ErrRange}},
			{1, answer{1, api.OK}}, {p - 1, answer{r, api.OK}}, {p, answer{0, api.ErrNone}}, {2*p - 2, answer{0, api.ErrNone}}, {1 << 32, answer{0, api.ErrNone}}, {math.MaxInt, answer{0, api.ErrNone}}, {math.MaxInt - 1, answer{0, api.ErrNone}},
		} {
			equal(t, "Zeta", of(Zeta(x.e, p)), x.want, x.e, p)
		}
	}
	equal(t, "Zeta", of(Zeta(2, 2)), answer{0, api.ErrNone}, 2, 2)
	equal(t, "Zeta", of(Zeta(2, 3)), answer{2, api.OK}, 2, 3)
	equal(t, "Zeta", of(Zeta(2, last)), answer{last - 1, api.OK}, 2, last)
	equal(t, "Zeta", of(Zeta(3, last)), answer{0, api.ErrNone}, 3, last)
}

// TestLeastModuli tests P3.2 to P3.4 for the moduli 2 and 3: all residues.
func TestLeastModuli(t *testing.T) {
	zero, none := answer{0, api.ErrZero}, answer{0, api.ErrNone}
	one, two := answer{1, api.OK}, answer{2, api.OK}
	for _, x := range []struct {
		p, a                            int
		mod, inv, order, log, sqrt, sym answer
	}{
		{2, 0, answer{}, zero, zero, zero, answer{}, answer{}},
		{2, 1, one, one, one, answer{}, one, one},
		{3, 0, answer{}, zero, zero, zero, answer{}, answer{}},
		{3, 1, one, one, one, answer{}, one, one},
		{3, 2, two, two, two, one, none, answer{-1, api.OK}},
	} {
		for a := x.a - 4*x.p; a <= x.a+4*x.p; a += x.p {
			equal(t, "Mod", of(Mod(a, x.p)), x.mod, a, x.p)
			equal(t, "Inv", of(Inv(a, x.p)), x.inv, a, x.p)
			equal(t, "Order", of(Order(a, x.p)), x.order, a, x.p)
			equal(t, "Log", of(Log(a, x.p)), x.log, a, x.p)
			equal(t, "Sqrt", of(Sqrt(a, x.p)), x.sqrt, a, x.p)
			equal(t, "Symbol", of(Symbol(a, x.p)), x.sym, a, x.p)
		}
	}
}
