package orbit

import (
	"fmt"
	"math/rand"
	"slices"
	"strings"

	"cayley/api"
	"cayley/perm"
)

// parse reads permutations of degree n.
func parse(n int, texts ...string) []api.Perm {
	var l []api.Perm
	for _, s := range texts {
		a, f := perm.Parse(s, n)
		if f != (api.Fault{}) {
			panic(s)
		}
		l = append(l, a)
	}
	return l
}

// of returns the group of degree n that permutations generate.
func of(n int, texts ...string) api.Group { return api.Group{Degree: n, Gens: parse(n, texts...)} }

// example returns g of the chapter's examples.
func example() api.Group { return of(5, "(0 1 2)", "(3 4)") }

// sequence returns count numbers from first on.
func sequence(first, count int) []int {
	l := make([]int, count)
	for i := range l {
		l[i] = first + i
	}
	return l
}

func identity(n int) api.Perm { return sequence(0, n) }

// cycle returns the permutation of degree n that maps each of length points from first on to the next one, and the last to the first.
func cycle(n, first, length int) api.Perm {
	a := identity(n)
	for i := range length {
		a[first+i] = first + (i+1)%length
	}
	return a
}

// cycles returns a group whose orbits behind each other have the given lengths; each is moved by a generator of its own.
func cycles(n int, lengths ...int) api.Group {
	g := api.Group{Degree: n}
	first := 0
	for _, length := range lengths {
		g.Gens = append(g.Gens, cycle(n, first, length))
		first += length
	}
	return g
}

// all returns a group of degree n that is the group of all permutations of its first k points.
func all(n, k int) api.Group {
	return api.Group{Degree: n, Gens: []api.Perm{cycle(n, 0, k), cycle(n, 0, min(k, 2))}}
}

// small returns groups of at most 7,920 elements.
func small() []api.Group {
	l := []api.Group{
		example(), {Degree: 1}, {Degree: 2}, {Degree: 3}, of(1, "()"), of(1, "()", "()"), of(2, "()"), of(2, "(0 1)"), of(2, "()", "(0 1)", "()", "(0 1)"),
		of(4, "(0 1)(2 3)", "(0 2)(1 3)"), of(4, "(0 2)(1 3)", "(0 1)(2 3)"), of(4, "(0 1)", "(0 1)(2 3)", "(0 2)"), of(5, "(3 4)", "(0 1 2)", "()", "(3 4)", "(0 1)"),
		of(5, "(0 1 2 3 4)", "(1 2)", "(0 1 2 3 4)"), of(6, "(0 1 2)", "(0 2 1)(3 4 5)", "(0 3)"), of(6, "(0 1 2 3 4 5)", "(0 5 4 3 2 1)"), of(6, "(5 4 3 2 1 0)"), of(6, "(2 3)"),
		of(8, "(0 1 2 3)(4 5 6 7)", "(0 4 2 6)(1 7 3 5)"), of(8, "(0 1)", "(0 2)(1 3)", "(0 4)(1 5)(2 6)(3 7)"), of(7, "(0 1 2 3 4 5 6)", "(1 2 4)(3 6 5)"), of(7, "(0 1 2)", "(2 3 4)", "(4 5 6)"),
		of(9, "(0 1 2)(3 4 5)(6 7 8)", "(0 3 6)(1 4 7)(2 5 8)", "(1 2)(4 5)(7 8)"), of(11, "(0 1 2 3 4 5 6 7 8 9 10)", "(2 6 10 7)(3 9 4 5)"), all(5, 5), all(6, 6), all(6, 4),
	}
	r := rand.New(rand.NewSource(7))
	for i := range 120 {
		n := 1 + i%6
		g := api.Group{Degree: n}
		for range r.Intn(5) {
			a := api.Perm(r.Perm(n))
			if r.Intn(3) == 0 {
				a = cycle(n, r.Intn(n), 1)
			}
			if i%4 == 0 {
				a = swap(r, n)
			}
			g.Gens = append(g.Gens, a)
		}
		if len(g.Gens) > 0 && r.Intn(4) == 0 {
			g.Gens = append(g.Gens, g.Gens[r.Intn(len(g.Gens))])
		}
		l = append(l, g)
	}
	for _, n := range []int{1, 2, 5, 6} {
		g := api.Group{Degree: n}
		for range api.MaxGens {
			g.Gens = append(g.Gens, r.Perm(n))
		}
		l = append(l, g)
	}
	return l
}

// swap returns a permutation that moves at most two points.
func swap(r *rand.Rand, n int) api.Perm {
	a := identity(n)
	i, k := r.Intn(n), r.Intn(n)
	a[i], a[k] = a[k], a[i]
	return a
}

// great returns groups of great degrees, whose elements may be too many to list.
func great() []api.Group {
	l := []api.Group{{Degree: 63}, {Degree: 64}, all(63, 63), all(64, 64), all(64, 63), all(64, 2), cycles(63, 63), cycles(64, 64), cycles(64, 1, 63), cycles(63, 20, 21, 22), cycles(64, 2, 3, 4, 5, 6, 7, 8, 9, 10), cycles(64, repeated(4, 16)...)}
	r := rand.New(rand.NewSource(64))
	for i := range 60 {
		g := api.Group{Degree: 61 + i%4}
		for range 1 + r.Intn(16) {
			a := swap(r, g.Degree)
			if i%5 == 0 {
				a = r.Perm(g.Degree)
			}
			if i%5 == 1 {
				first := r.Intn(g.Degree)
				a = cycle(g.Degree, first, 1+r.Intn(g.Degree-first))
			}
			g.Gens = append(g.Gens, a)
		}
		l = append(l, g)
	}
	return l
}

// repeated returns a list of count numbers that are all x.
func repeated(x, count int) []int { return slices.Repeat([]int{x}, count) }

// times returns a*b*c and so on, of degree n.
func times(n int, l ...api.Perm) api.Perm {
	product := identity(n)
	for _, a := range l {
		for i, x := range product {
			product[i] = a[x]
		}
	}
	return product
}

// inverse returns the inverse.
func inverse(a api.Perm) api.Perm {
	b := identity(len(a))
	for i, x := range a {
		b[x] = i
	}
	return b
}

// elements returns all elements of a group.
func elements(g api.Group) []api.Perm {
	l := []api.Perm{identity(g.Degree)}
	found := map[string]bool{fmt.Sprint(l[0]): true}
	for len(g.Gens) > 0 {
		before := len(l)
		for _, a := range l[:before] {
			for _, s := range g.Gens {
				b := times(g.Degree, a, s)
				if name := fmt.Sprint(b); !found[name] {
					found[name] = true
					l = append(l, b)
				}
			}
		}
		if len(l) == before {
			break
		}
	}
	return l
}

// parts returns for each point the least point of its orbit: as long as a generator joins two parts, the points of one get the number of the other.
func parts(g api.Group) []int {
	part := identity(g.Degree)
	for changed := true; changed; {
		changed = false
		for _, s := range g.Gens {
			for p, q := range s {
				if part[p] != part[q] {
					least := min(part[p], part[q])
					part[p], part[q], changed = least, least, true
				}
			}
		}
	}
	return part
}

// partOf returns the points with a number.
func partOf(part []int, number int) []int {
	var l []int
	for p, x := range part {
		if x == number {
			l = append(l, p)
		}
	}
	return l
}

// distances returns for each point the length of a shortest word that maps p to it, or the degree if there is none: lengths are brought down until nothing changes.
func distances(g api.Group, p int) []int {
	d := repeated(g.Degree, g.Degree)
	d[p] = 0
	for changed := true; changed; {
		changed = false
		for _, s := range g.Gens {
			for q, x := range s {
				if d[q]+1 < d[x] {
					d[x], changed = d[q]+1, true
				}
			}
		}
	}
	return d
}

// leastWord returns the lexicographically least of the shortest words that map p to q, by walking from p always nearer to q.
func leastWord(g api.Group, p, q int) api.Word {
	back := api.Group{Degree: g.Degree}
	for _, s := range g.Gens {
		back.Gens = append(back.Gens, inverse(s))
	}
	to := distances(back, q)
	var w api.Word
	for p != q {
		for k, s := range g.Gens {
			if to[s[p]] == to[p]-1 {
				w, p = append(w, k+1), s[p]
				break
			}
		}
	}
	return w
}

// textbookTree returns the breadth tree: it adds a point for the first point and the first generator that lead to a new one, and begins again.
func textbookTree(g api.Group, p int) (points, parents, gens []int) {
	points, parents, gens = []int{p}, []int{-1}, []int{0}
again:
	for {
		for _, q := range points {
			for k, s := range g.Gens {
				if !slices.Contains(points, s[q]) {
					points, parents, gens = append(points, s[q]), append(parents, q), append(gens, k+1)
					continue again
				}
			}
		}
		return points, parents, gens
	}
}

// textbookStab returns the Schreier generators, from the textbook tree.
func textbookStab(g api.Group, p int) []api.Perm {
	points, parents, gens := textbookTree(g, p)
	var u func(x int) api.Perm
	u = func(x int) api.Perm {
		if x == p {
			return identity(g.Degree)
		}
		i := slices.Index(points, x)
		return times(g.Degree, u(parents[i]), g.Gens[gens[i]-1])
	}
	var l []api.Perm
	for _, q := range points {
		for _, s := range g.Gens {
			x := times(g.Degree, u(q), s, inverse(u(s[q])))
			same := func(y api.Perm) bool { return slices.Equal(x, y) }
			if !same(identity(g.Degree)) && !slices.ContainsFunc(l, same) {
				l = append(l, x)
			}
		}
	}
	return l
}

// textbookImages returns the images of a list under elements, in lexicographic order, each of them sorted if it is a set.
func textbookImages(elements []api.Perm, l []int, isSet bool) [][]int {
	images := map[string][]int{}
	for _, a := range elements {
		var image []int
		var name strings.Builder
		for _, p := range l {
			image = append(image, a[p])
		}
		if isSet {
			slices.Sort(image)
		}
		for _, p := range image {
			fmt.Fprintf(&name, "%02d ", p)
		}
		images[name.String()] = image
	}
	var names []string
	for name := range images {
		names = append(names, name)
	}
	slices.Sort(names)
	var sorted [][]int
	for _, name := range names {
		sorted = append(sorted, images[name])
	}
	return sorted
}
