package chain

import (
	"iter"

	"cayley/api"
)

// entry is an element of a table. Sifting needs the inverse, too.
type entry struct{ to, back element }

// table is a table of the chapter: the entry of the level i and the point p fixes the points before i and maps i to p; without it there is nil. Moreover, each level has the identity as the entry of its own point.
type table struct {
	degree int
	at     [api.MaxDegree][api.MaxDegree]*entry
}

func newTable(n int) *table {
	t := &table{degree: n}
	one := &entry{identity(), identity()}
	for i := range n {
		t.at[i][i] = one
	}
	return t
}

// enter makes x, which fixes the points before the level, the entry of the level and of the point that it maps the level to.
func (t *table) enter(level int, x element) { t.at[level][x[level]] = &entry{x, x.inverse()} }

// moved walks through the levels from the first one on, and yields those that x moves, with their images. Who ranges over them may change x on the way: the levels that follow are those of the new x.
func (t *table) moved(x *element, first int) iter.Seq2[int, int] {
	return func(yield func(int, int) bool) {
		for i := first; i < t.degree; i++ {
			if p := int(x[i]); p != i && !yield(i, p) {
				return
			}
		}
	}
}

// sift sifts x, which fixes the points before the first level, and returns the residue and the level at which that ends.
func (t *table) sift(x element, first int) (residue element, level int) {
	for i, p := range t.moved(&x, first) {
		y := t.at[i][p]
		if y == nil {
			return x, i
		}
		x = x.times(&y.back)
	}
	return x, t.degree
}

// has says whether x, which fixes the points before the first level, is a product of entries, one of each level from it on, the last level first.
func (t *table) has(x element, first int) bool {
	_, level := t.sift(x, first)
	return level == t.degree
}

// insert inserts an element.
func (t *table) insert(x element) {
	if residue, level := t.sift(x, 0); level < t.degree {
		t.enter(level, residue)
	}
}

// filled says where the table has entries.
func (t *table) filled() (is [api.MaxDegree][api.MaxDegree]bool) {
	for i, entries := range t.at {
		for p, x := range entries {
			is[i][p] = x != nil
		}
	}
	return is
}
