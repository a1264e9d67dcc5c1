package chain

import (
	"math"
	"math/rand"
	"slices"
	"testing"

	"cayley/api"
)

// textbookTable is a table by the words of the chapter; the key of an entry is its level and its point.
type textbookTable map[[2]int]api.Perm

// insert inserts x and says whether something is entered.
func (t textbookTable) insert(x api.Perm) bool {
	for i, p := 0, 0; i < len(x); i++ {
		if p = x[i]; p == i {
			continue
		}
		y, found := t[[2]int{i, p}]
		if !found {
			t[[2]int{i, p}] = x
			return true
		}
		x = mul(x, inv(y))
	}
	return false
}

// isClosed inserts the products of any two entries. (It may change the table.)
func (t textbookTable) isClosed() bool {
	var l []api.Perm
	for _, x := range t {
		l = append(l, x)
	}
	for _, x := range l {
		for _, y := range l {
			if t.insert(mul(x, y)) {
				return false
			}
		}
	}
	return true
}

// textbookRandom says whether Random finds the group, by the words of the chapter.
func textbookRandom(g api.Group, numbers []int) bool {
	t := textbookTable{}
	list := slices.Clone(g.Gens)
	for _, s := range g.Gens {
		t.insert(s)
	}
	for _, s := range g.Gens {
		list = append(list, inv(s))
	}
	m := len(list)
	index := func(a int) int {
		for k := range m {
			if a%m == k || a%m == k-m {
				return k
			}
		}
		panic(a)
	}
	for len(numbers) > 1 && m > 0 {
		a, b := index(numbers[0]), index(numbers[1])
		list[a] = mul(list[a], list[b])
		t.insert(list[a])
		numbers = numbers[2:]
	}
	return t.isClosed()
}

// checkRandom reports another result of Random than the textbook's, and returns whether the group is found.
func checkRandom(t *testing.T, g api.Group, numbers []int) bool {
	t.Helper()
	c, e := Random(g, numbers)
	found := textbookRandom(g, numbers)
	if found && (e != api.OK || !same(c, chainOf(g))) || !found && (e != api.ErrState || !zero(c)) {
		t.Fatalf("Random(%v, %v) = %v, error %d, but the table is closed: %v", g, numbers, c, int(e), found)
	}
	return found
}

// TestRandomExamples tests P8.2 with the chapter's examples.
func TestRandomExamples(t *testing.T) {
	g := of(4, "(0 1 2)", "(2 3)")
	for _, x := range []struct {
		g       api.Group
		numbers []int
		found   bool
	}{{g, nil, false}, {four(), nil, false}, {four(), []int{0, 1}, true}, {four(), []int{0, 1, 5}, true}} {
		if found := checkRandom(t, x.g, x.numbers); found != x.found {
			t.Errorf("Random(%v, %v) finds the group: %v", x.g, x.numbers, found)
		}
	}
}

// TestRandom tests P8.2: random elements that are known, among them squares, elements made from changed elements and inverses, and numbers below zero.
func TestRandom(t *testing.T) {
	for _, x := range []struct {
		g       api.Group
		numbers []int
		found   bool
	}{
		{api.Group{Degree: 1}, nil, true}, {api.Group{Degree: 64}, nil, true}, {api.Group{Degree: 5}, []int{0, 0, 1, 2, -1, 7}, true}, {of(5, "()"), nil, true}, {of(5, "()", "()"), []int{0, 1}, true}, {of(3, "(0 1)"), nil, true}, {of(3, "(0 1)"), []int{7}, true}, {of(4, "(0 1)", "(2 3)"), nil, true},
		// Of (0 1 2), the square is missing. The list has the generator and its inverse.
		{of(3, "(0 1 2)"), nil, false}, {of(3, "(0 1 2)"), []int{0}, false}, {of(3, "(0 1 2)"), []int{0, 0}, true}, {of(3, "(0 1 2)"), []int{1, 1}, false}, {of(3, "(0 1 2)"), []int{1, 1, 1, 1}, true}, {of(3, "(0 1 2)"), []int{0, 1}, false}, {of(3, "(0 1 2)"), []int{2, -2}, true}, {of(3, "(0 1 2)"), []int{-1, -1}, false}, {of(3, "(0 1 2)"), []int{-2, 4}, true},
		{of(3, "(0 1 2)"), []int{math.MinInt, math.MinInt}, true}, {of(3, "(0 1 2)"), []int{math.MaxInt, math.MaxInt}, false}, {of(3, "(0 1 2)", "(0 2 1)"), nil, true}, {of(3, "(0 1 2)", "(0 1 2)"), nil, false},
		// An inverse that is no generator is inserted only as a part of products.
		{of(4, "(0 1 2 3)"), nil, false}, {of(4, "(0 1 2 3)"), []int{0, 0}, false}, {of(4, "(0 1 2 3)"), []int{0, 0, 1, 0}, false}, {of(4, "(0 1 2 3)"), []int{0, 0, 0, 1, 1, 0}, false}, {of(4, "(0 1 2 3)"), []int{0, 0, 1, 0, 0, 1}, true},
		{of(3, "(0 1)", "(1 2)"), nil, false}, {of(3, "(0 1)", "(1 2)"), []int{0, 1}, true}, {of(3, "(0 1)", "(1 2)"), []int{1, 0}, false}, {of(3, "(0 1)", "(1 2)"), []int{3, 2}, false}, {of(3, "(0 1)", "(1 2)"), []int{-4, -3}, true},
	} {
		if found := checkRandom(t, x.g, x.numbers); found != x.found {
			t.Errorf("Random(%v, %v) finds the group: %v", x.g, x.numbers, found)
		}
	}
}

// TestRandomEvery tests P8.2 and P8.8: many groups and numbers, against the textbook.
func TestRandomEvery(t *testing.T) {
	r := rand.New(rand.NewSource(80))
	found, tried := 0, 0
	for _, g := range small() {
		if count(chainOf(g)) > 720 {
			continue
		}
		for length := range 12 {
			numbers := make([]int, length*length/2)
			for i := range numbers {
				numbers[i] = r.Intn(1000) - 500
				if length%3 == 0 {
					numbers[i] = int(r.Uint64())
				}
			}
			if checkRandom(t, g, numbers) {
				found++
			}
			tried++
		}
	}
	if found < 200 || tried-found < 200 {
		t.Errorf("of %d groups, %d are found", tried, found)
	}
}

// TestRandomGreat tests P8.2 and P8.8: groups of great degrees, with as many numbers as there may be.
func TestRandomGreat(t *testing.T) {
	r := rand.New(rand.NewSource(81))
	numbers := make([]int, api.MaxNumbers)
	for i := range numbers {
		numbers[i] = r.Int()
	}
	ring := api.Group{Degree: 64, Gens: []api.Perm{cycle(64, 0, 64)}}
	for _, x := range []struct {
		g       api.Group
		numbers []int
		found   bool
	}{
		{api.Group{Degree: 64}, numbers, true}, {of(64, "(62 63)"), numbers, true}, {all(12), numbers, true}, {api.Group{Degree: 64, Gens: []api.Perm{cycle(64, 0, 12), cycle(64, 0, 2), cycle(64, 30, 2)}}, numbers, true},
		// The random elements are the powers of the inverse of the ring, which are as many as there are pairs. The first one is the identity.
		{ring, slices.Repeat([]int{0, 1}, 62), false}, {ring, slices.Repeat([]int{0, 1}, 63), true}, {ring, slices.Repeat([]int{0, 1}, 500), true}, {ring, numbers, false},
	} {
		if found := checkRandom(t, x.g, x.numbers); found != x.found {
			t.Errorf("Random of degree %d with %d generators and %d numbers finds the group: %v", x.g.Degree, len(x.g.Gens), len(x.numbers), found)
		}
	}
	for _, k := range great() {
		if c, e := Random(k.g, numbers); e == api.OK && !same(c, chainOf(k.g)) || e != api.OK && (e != api.ErrState || !zero(c)) {
			t.Errorf("%s: error %d", k.name, int(e))
		}
	}
}

// TestRandomLong tests P8.2: how many numbers there may be.
func TestRandomLong(t *testing.T) {
	for _, g := range []api.Group{{Degree: 1}, {Degree: 64}, of(3, "(0 1)"), four(), all(5)} {
		for _, length := range []int{1001, 1002, 5000} {
			if c, e := Random(g, make([]int, length)); !zero(c) || e != api.ErrLong {
				t.Errorf("Random(%v, %d numbers): error %d", g, length, int(e))
			}
		}
		for _, length := range []int{999, 1000} {
			checkRandom(t, g, make([]int, length))
		}
	}
	// The last pair of 1,000 numbers counts, the last one of 999 does not.
	numbers := append(make([]int, 998), 0, 1)
	for i := 0; i < 998; i += 2 {
		numbers[i], numbers[i+1] = 2, 3
	}
	g := of(4, "(0 1)(2 3)", "()", "(0 2)(1 3)")
	g.Gens[1], g.Gens[2] = g.Gens[2], g.Gens[1]
	if e := checkRandomEnd(t, g, numbers); e != api.OK {
		t.Errorf("1,000 numbers: error %d", int(e))
	}
	if e := checkRandomEnd(t, g, numbers[:999]); e != api.ErrState {
		t.Errorf("999 numbers: error %d", int(e))
	}
}

// checkRandomEnd is checkRandom, but returns the error.
func checkRandomEnd(t *testing.T, g api.Group, numbers []int) api.Errno {
	t.Helper()
	if checkRandom(t, g, numbers) {
		return api.OK
	}
	return api.ErrState
}
