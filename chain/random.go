package chain

import (
	"iter"
	"slices"

	"cayley/api"
	"cayley/orbit"
)

// Random returns the chain of a group if its generators and the random elements that numbers describe close a table.
func Random(g api.Group, numbers []int) (api.Chain, api.Errno) {
	if e := orbit.Check(g); e != api.OK {
		return api.Chain{}, e
	}
	if len(numbers) > api.MaxNumbers {
		return api.Chain{}, api.ErrLong
	}
	t, gens := newTable(g.Degree), elements(g.Gens)
	for _, x := range gens {
		t.insert(x)
	}
	for x := range random(gens, numbers) {
		t.insert(x)
	}
	// If the table is closed, the products of its entries, one of each level, are the group: the table has an entry for each point of each orbit. If it has, every element sifts, and so do the products of two entries.
	whole := generate(g.Degree, gens)
	if t.filled() != whole.filled() {
		return api.Chain{}, api.ErrState
	}
	return whole.chain(), api.OK
}

// random enumerates the random elements that numbers describe.
func random(gens []element, numbers []int) iter.Seq[element] {
	return func(yield func(element) bool) {
		list := slices.Clone(gens)
		for _, x := range gens {
			list = append(list, x.inverse())
		}
		m := len(list)
		for i := 1; i < len(numbers) && m > 0; i += 2 {
			a, b := mod(numbers[i-1], m), mod(numbers[i], m)
			list[a] = list[a].times(&list[b])
			if !yield(list[a]) {
				return
			}
		}
	}
}

// mod returns the remainder of a, which is not negative, even if a is.
func mod(a, m int) int { return (a%m + m) % m }
