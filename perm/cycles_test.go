package perm

import (
	"slices"
	"testing"

	"cayley/api"
)

// TestCycleExamples tests P1.2 with the chapter's examples.
func TestCycleExamples(t *testing.T) {
	a := exampleA()
	if n := must[int](t)(Order(a)); n != 6 {
		t.Errorf("Order(a) = %d", n)
	}
	if l := must[[][]int](t)(Cycles(a)); len(l) != 2 || !slices.Equal(l[0], []int{0, 1, 2}) || !slices.Equal(l[1], []int{3, 4}) {
		t.Errorf("Cycles(a) = %v", l)
	}
	if l := must[[]int](t)(Type(a)); !slices.Equal(l, []int{3, 2}) {
		t.Errorf("Type(a) = %v", l)
	}
	if l := must[[]int](t)(Type(exampleB())); !slices.Equal(l, []int{2, 1, 1, 1}) {
		t.Errorf("Type(b) = %v", l)
	}
	if n := must[int](t)(Sign(a)); n != -1 {
		t.Errorf("Sign(a) = %d", n)
	}
}

// TestOrder tests P1.2: Order, against powers one by one.
func TestOrder(t *testing.T) {
	for n := 1; n <= 6; n++ {
		for _, a := range every(n) {
			want, p := 1, a
			for !slices.Equal(p, one(n)) {
				want, p = want+1, mul(p, a)
			}
			if got := must[int](t)(Order(a)); got != want {
				t.Fatalf("Order(%v) = %d, want %d", a, got, want)
			}
		}
	}
}

// rotations returns a permutation with cycles of the given lengths, one behind the other.
func rotations(lengths ...int) api.Perm {
	var p api.Perm
	for _, n := range lengths {
		first := len(p)
		for i := range n {
			p = append(p, first+(i+1)%n)
		}
	}
	return p
}

// TestOrderGreat tests P1.2: Order, Type and Sign at degree 64, the greatest order among them.
func TestOrderGreat(t *testing.T) {
	for _, x := range []struct {
		lengths     []int
		order, sign int
	}{
		{[]int{3, 5, 7, 8, 11, 13, 17}, 2042040, -1}, {[]int{64}, 64, -1}, {[]int{32, 32}, 32, 1}, {[]int{1, 63}, 63, 1}, {[]int{16, 24, 24}, 48, -1}, {[]int{6, 10, 15, 33}, 330, 1},
	} {
		p := rotations(x.lengths...)
		if got := must[int](t)(Order(p)); got != x.order {
			t.Errorf("Order of type %v = %d, want %d", x.lengths, got, x.order)
		}
		if got := must[int](t)(Sign(p)); got != x.sign {
			t.Errorf("Sign of type %v = %d, want %d", x.lengths, got, x.sign)
		}
		slices.Reverse(x.lengths)
		if got := must[[]int](t)(Type(p)); !slices.Equal(got, x.lengths) {
			t.Errorf("Type = %v, want %v", got, x.lengths)
		}
	}
}

// TestCycles tests P1.2: Cycles and Type, from their definitions.
func TestCycles(t *testing.T) {
	for _, a := range append(every(6), shuffled(90)...) {
		covered := map[int]bool{}
		var lengths []int
		last := -1
		for _, c := range must[[][]int](t)(Cycles(a)) {
			if len(c) < 2 || c[0] != slices.Min(c) || c[0] <= last {
				t.Fatalf("Cycles(%v) has %v", a, c)
			}
			last = c[0]
			lengths = append(lengths, len(c))
			for i, x := range c {
				if covered[x] || a[x] != c[(i+1)%len(c)] {
					t.Fatalf("Cycles(%v) has %v", a, c)
				}
				covered[x] = true
			}
		}
		for i, x := range a {
			if covered[i] == (x == i) {
				t.Fatalf("Cycles(%v): point %d", a, i)
			}
			if x == i {
				lengths = append(lengths, 1)
			}
		}
		slices.SortFunc(lengths, func(x, y int) int { return y - x })
		if got := must[[]int](t)(Type(a)); !slices.Equal(got, lengths) {
			t.Fatalf("Type(%v) = %v, want %v", a, got, lengths)
		}
	}
	if l := must[[][]int](t)(Cycles(one(64))); len(l) != 0 {
		t.Errorf("Cycles of the identity = %v", l)
	}
}

// TestSign tests P1.2: Sign, against the number of inversions.
func TestSign(t *testing.T) {
	for _, a := range append(every(6), shuffled(90)...) {
		want := 1
		for i := range a {
			for k := range i {
				if a[k] > a[i] {
					want = -want
				}
			}
		}
		if got := must[int](t)(Sign(a)); got != want {
			t.Fatalf("Sign(%v) = %d, want %d", a, got, want)
		}
	}
}

// TestCyclesStop tests that the iterator ends when who ranges over it does.
func TestCyclesStop(t *testing.T) {
	for n := range 4 {
		var got [][]int
		for c := range cycles(api.Perm{0, 2, 1, 3}) {
			if len(got) == n {
				break
			}
			got = append(got, c)
		}
		if len(got) != min(n, 3) {
			t.Errorf("%d cycles: %v", n, got)
		}
	}
}
