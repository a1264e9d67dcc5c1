package linear

import (
	"iter"
	"maps"
	"slices"

	"cayley/prime"
)

// modulus is the prime whose residues are computed with.
type modulus int

// residue returns the residue of any int.
func (p modulus) residue(x int) int {
	r, _ := prime.Mod(x, int(p))
	return r
}

// divide divides a row by a residue other than 0.
func (p modulus) divide(row []int, k int) {
	inverse, _ := prime.Inv(k, int(p))
	for i, x := range row {
		row[i] = x * inverse % int(p)
	}
}

// subtract takes another row, times a residue, off a row.
func (p modulus) subtract(row []int, k int, other []int) {
	if k == 0 {
		return
	}
	for i, x := range other {
		row[i] = (row[i] + (int(p)-k)*x) % int(p)
	}
}

// elimination keeps rows by their pivots: each of them is 0 before its pivot, 1 there, and 0 at the pivots of the others.
type elimination struct {
	modulus
	width int // The pivots are below it.
	rows  map[int][]int
}

// eliminate returns the elimination of a list of rows. A row that those before it make zero below the width is left out.
func eliminate(p, width int, l [][]int) *elimination {
	s := &elimination{modulus(p), width, map[int][]int{}}
	for rest := range each(l, s.reduce) {
		s.keep(rest)
	}
	return s
}

// each yields f of the entries of a list, one after the other. It calls f for an entry when its turn comes, so that f may depend on what was done with those before.
func each[X, Y any](l []X, f func(x X) Y) iter.Seq[Y] {
	return func(yield func(y Y) bool) {
		for _, x := range l {
			if !yield(f(x)) {
				return
			}
		}
	}
}

// pivots yields the pivots, ascending, with their rows.
func (s *elimination) pivots() iter.Seq2[int, []int] {
	return func(yield func(j int, row []int) bool) {
		for _, j := range slices.Sorted(maps.Keys(s.rows)) {
			if !yield(j, s.rows[j]) {
				return
			}
		}
	}
}

// reduce returns what is left of a row of any ints without the multiples of the kept rows that make it 0 at their pivots.
func (s *elimination) reduce(row []int) []int {
	rest := slices.Collect(each(row, s.residue))
	for j, kept := range s.pivots() {
		s.subtract(rest, rest[j], kept)
	}
	return rest
}

// keep adds a row that was reduced, unless it has no pivot.
func (s *elimination) keep(rest []int) {
	j := slices.IndexFunc(rest[:s.width], isNotZero)
	if j < 0 {
		return
	}
	s.divide(rest, rest[j])
	for _, kept := range s.pivots() {
		s.subtract(kept, kept[j], rest)
	}
	s.rows[j] = rest
}

// after returns the kept rows whose pivots are not among the first n entries, without these, which are 0. They are the basis of all such rows in the span.
func (s *elimination) after(n int) [][]int {
	var l [][]int
	for j, row := range s.pivots() {
		if j >= n {
			l = append(l, row[n:])
		}
	}
	return l
}
