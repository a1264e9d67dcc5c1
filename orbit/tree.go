package orbit

import (
	"slices"

	"cayley/api"
)

// tree is a breadth tree of points, or of other things that permutations act on: a list, the index of each entry, and for each entry the index of its parent and the number of its generator (-1 and 0 for the first one).
type tree[T comparable] struct {
	list    []T
	index   map[T]int
	parents []int
	gens    []int
}

// grow returns the breadth tree of x, where act returns what a permutation maps a thing to. The error is ErrOver if the tree has more than MaxList entries.
func grow[T comparable](gens []api.Perm, x T, act func(x T, s api.Perm) T) (*tree[T], api.Errno) {
	t := &tree[T]{index: map[T]int{}}
	t.add(x, -1, 0)
	// A range over the list would not see the entries that are appended on the way.
	for i := 0; i < len(t.list); i++ {
		for k, s := range gens {
			t.add(act(t.list[i], s), i, k+1)
			if len(t.list) > api.MaxList {
				return nil, api.ErrOver
			}
		}
	}
	return t, api.OK
}

// add appends an entry, unless the list has it.
func (t *tree[T]) add(x T, parent, gen int) {
	if _, found := t.index[x]; found {
		return
	}
	t.index[x] = len(t.list)
	t.list = append(t.list, x)
	t.parents = append(t.parents, parent)
	t.gens = append(t.gens, gen)
}

// path returns the path of the entry with an index.
func (t *tree[T]) path(i int) api.Word {
	var w api.Word
	for ; i > 0; i = t.parents[i] {
		w = append(w, t.gens[i])
	}
	slices.Reverse(w)
	return w
}

// growPoint returns the breadth tree of a point.
func growPoint(g api.Group, p int) (*tree[int], api.Errno) {
	if e := checkPoints(g, p); e != api.OK {
		return nil, e
	}
	return grow(g.Gens, p, func(q int, s api.Perm) int { return s[q] })
}

// Tree returns the breadth tree of a point.
func Tree(g api.Group, p int) (points, parents, gens []int, e api.Errno) {
	t, e := growPoint(g, p)
	if e != api.OK {
		return nil, nil, nil, e
	}
	parents = []int{-1}
	for _, i := range t.parents[1:] {
		parents = append(parents, t.list[i])
	}
	return t.list, parents, t.gens, api.OK
}

// Path returns the path of q in the breadth tree of p.
func Path(g api.Group, p, q int) (api.Word, api.Errno) {
	if e := checkPoints(g, p, q); e != api.OK {
		return nil, e
	}
	t, _ := growPoint(g, p)
	i, found := t.index[q]
	if !found {
		return nil, api.ErrNone
	}
	return t.path(i), api.OK
}
