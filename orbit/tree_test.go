package orbit

import (
	"slices"
	"testing"

	"cayley/api"
)

// wantTree reports another breadth tree than the expected one.
func wantTree(t *testing.T, g api.Group, p int, points, parents, gens []int) {
	t.Helper()
	l, from, by, e := Tree(g, p)
	want(t, "Tree", [][]int{l, from, by}, e, [][]int{points, parents, gens}, api.OK)
}

// wantPath reports another path than the expected one.
func wantPath(t *testing.T, g api.Group, p, q int, w ...int) {
	t.Helper()
	path, e := Path(g, p, q)
	wantList(t, "Path", path, e, w, api.OK)
}

// TestTreeExamples tests P7.3 with the chapter's examples.
func TestTreeExamples(t *testing.T) {
	wantTree(t, example(), 0, []int{0, 1, 2}, []int{-1, 0, 1}, []int{0, 1, 1})
	wantPath(t, example(), 0, 2, 1, 1)
	wantPath(t, example(), 0, 0)
	w, e := Path(example(), 0, 3)
	wantList(t, "Path(g, 0, 3)", w, e, nil, api.ErrNone)
}

// TestTrees tests P7.3: trees that are known. In most of them several generators lead to the same point.
func TestTrees(t *testing.T) {
	type list = []int
	wantTree(t, api.Group{Degree: 3}, 1, list{1}, list{-1}, list{0})
	wantTree(t, of(3, "()"), 1, list{1}, list{-1}, list{0})
	wantTree(t, of(3, "(0 2)"), 1, list{1}, list{-1}, list{0})
	wantTree(t, of(3, "(0 2)"), 2, list{2, 0}, list{-1, 2}, list{0, 1})
	wantTree(t, of(3, "()", "(0 2)", "(0 2)"), 2, list{2, 0}, list{-1, 2}, list{0, 2})
	wantTree(t, all(4, 4), 0, list{0, 1, 2, 3}, list{-1, 0, 1, 2}, list{0, 1, 1, 1})
	wantTree(t, all(4, 4), 2, list{2, 3, 0, 1}, list{-1, 2, 3, 0}, list{0, 1, 1, 1})
	wantTree(t, of(4, "(0 1)(2 3)", "(0 2)(1 3)"), 0, list{0, 1, 2, 3}, list{-1, 0, 0, 1}, list{0, 1, 2, 2})
	wantTree(t, of(4, "(0 1)(2 3)", "(0 2)(1 3)"), 3, list{3, 2, 1, 0}, list{-1, 3, 3, 2}, list{0, 1, 2, 2})
	wantTree(t, of(4, "(0 2)(1 3)", "(0 1)(2 3)"), 0, list{0, 2, 1, 3}, list{-1, 0, 0, 2}, list{0, 1, 2, 2})
	wantTree(t, of(4, "(0 1)", "(0 1)(2 3)", "(0 2)"), 0, list{0, 1, 2, 3}, list{-1, 0, 0, 2}, list{0, 1, 3, 2})
	wantTree(t, of(6, "(0 1 2 3 4 5)", "(0 5 4 3 2 1)"), 2, list{2, 3, 1, 4, 0, 5}, list{-1, 2, 2, 3, 1, 4}, list{0, 1, 2, 1, 2, 1})
	wantTree(t, of(6, "(0 1 2)", "(0 2 1)(3 4 5)", "(0 3)"), 0, list{0, 1, 2, 3, 4, 5}, list{-1, 0, 0, 0, 3, 4}, list{0, 1, 2, 3, 2, 2})
}

// TestTreesEvery tests P7.3: the trees of many groups, by the words of the chapter.
func TestTreesEvery(t *testing.T) {
	for _, g := range append(small(), great()...) {
		for p := range g.Degree {
			points, parents, gens := textbookTree(g, p)
			wantTree(t, g, p, points, parents, gens)
		}
	}
}

// TestPaths tests P7.3: paths that are known. In the first group two paths of the same length lead to 3, and in the second one the point is reached by a later generator from an earlier point.
func TestPaths(t *testing.T) {
	klein := of(4, "(0 1)(2 3)", "(0 2)(1 3)")
	wantPath(t, klein, 0, 3, 1, 2)
	wantPath(t, klein, 3, 0, 1, 2)
	wantPath(t, klein, 1, 2, 1, 2)
	several := of(4, "(0 1)", "(0 1)(2 3)", "(0 2)")
	wantPath(t, several, 0, 1, 1)
	wantPath(t, several, 0, 3, 3, 2)
	wantPath(t, several, 3, 0, 2, 3)
	wantPath(t, several, 1, 3, 1, 3, 2)
	wantPath(t, of(6, "(0 1 2 3 4 5)", "(0 5 4 3 2 1)"), 2, 5, 1, 1, 1)
	wantPath(t, of(6, "(0 1 2 3 4 5)", "(0 5 4 3 2 1)"), 2, 0, 2, 2)
	wantPath(t, of(3, "()", "(0 2)", "(0 2)"), 0, 2, 2)
	wantPath(t, api.Group{Degree: 1}, 0, 0)
	wantPath(t, of(1, "()"), 0, 0)
	wantPath(t, cycles(64, 64), 63, 62, repeated(1, 63)...)
	wantPath(t, cycles(64, 64), 0, 63, repeated(1, 63)...)
	wantPath(t, cycles(64, 64), 63, 0, 1)
	wantPath(t, cycles(64, 64), 63, 63)
}

// TestPathsEvery tests P7.3: the paths of many groups. A path is the least of the shortest words: by induction on the length, the points of a length come in the order of their words.
func TestPathsEvery(t *testing.T) {
	for _, g := range append(small(), great()[:30]...) {
		part := parts(g)
		for p := range g.Degree {
			for q := range g.Degree {
				w, e := Path(g, p, q)
				if part[p] != part[q] {
					wantList(t, "Path", w, e, nil, api.ErrNone)
				} else {
					wantList(t, "Path", w, e, leastWord(g, p, q), api.OK)
				}
			}
		}
	}
}

// TestShortest tests P7.7: a path maps p to q, and is a shortest word in the generators that does.
func TestShortest(t *testing.T) {
	for _, g := range append(small(), great()...) {
		for p := range g.Degree {
			d := distances(g, p)
			points, _, _, e := Tree(g, p)
			if e != api.OK || !slices.IsSortedFunc(points, func(a, b int) int { return d[a] - d[b] }) {
				t.Fatalf("the points of Tree(%v, %d) are %v, error %d", g, p, points, int(e))
			}
			for _, q := range points {
				w, e := Path(g, p, q)
				x := p
				for _, letter := range w {
					if letter < 1 || letter > len(g.Gens) {
						t.Fatalf("Path(%v, %d, %d) = %v", g, p, q, w)
					}
					x = g.Gens[letter-1][x]
				}
				if e != api.OK || x != q || len(w) != d[q] {
					t.Fatalf("Path(%v, %d, %d) = %v, error %d: to %d in %d steps", g, p, q, w, int(e), x, d[q])
				}
			}
		}
	}
}
