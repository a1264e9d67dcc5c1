package chain

import (
	"fmt"
	"math"
	"math/rand"
	"slices"
	"testing"

	"cayley/api"
)

// candidates returns all permutations of the degree n that fix the points before i and map i to p.
func candidates(n, i, p int) []api.Perm {
	if p == i {
		return []api.Perm{one(n)}
	}
	var l []api.Perm
	for _, a := range listed(n, all(n).Gens) {
		if slices.Equal(a[:i], one(i)) && a[i] == p {
			l = append(l, a)
		}
	}
	return l
}

// shapes calls f with everything of the degree n that has the shape of a chain: for each level, some points from it on, and any representatives.
func shapes(n int, f func(c api.Chain)) {
	c := api.Chain{Degree: n, Orbits: make([][]int, n), Reps: make([][]api.Perm, n)}
	var choose func(i, p int)
	choose = func(i, p int) {
		if i == n {
			f(copied(c))
			return
		}
		if p == n {
			choose(i+1, i+1)
			return
		}
		orbit, reps := c.Orbits[i], c.Reps[i]
		if p > i {
			choose(i, p+1)
		}
		for _, a := range candidates(n, i, p) {
			c.Orbits[i], c.Reps[i] = append(slices.Clone(orbit), p), append(slices.Clone(reps), a)
			choose(i, p+1)
		}
		c.Orbits[i], c.Reps[i] = orbit, reps
	}
	choose(0, 0)
}

// TestShapes tests P8.3: of all that has the shape of a chain of a degree up to 4, just the chains of groups are valid.
func TestShapes(t *testing.T) {
	t.Parallel()
	for n, wanted := range []int{0, 1, 2, 6, 30} {
		if n == 0 {
			continue
		}
		valid := map[string]bool{}
		for _, c := range subgroups(n) {
			valid[fmt.Sprint(c)] = true
		}
		found := 0
		shapes(n, func(c api.Chain) {
			e := Check(c)
			if valid[fmt.Sprint(c)] && e != api.OK || !valid[fmt.Sprint(c)] && e != api.ErrForm {
				t.Fatalf("Check(%v) = %d", c, int(e))
			}
			if e == api.OK {
				found++
			}
		})
		if found != wanted || len(valid) != wanted {
			t.Errorf("%d chains of degree %d, of %d groups, want %d", found, n, len(valid), wanted)
		}
	}
}

// TestChanges tests P8.3: the chains of all groups of degree 5, in which one representative is another permutation, or one point with a representative is left out or put in.
func TestChanges(t *testing.T) {
	t.Parallel()
	groups := subgroups(5)
	valid := map[string]bool{}
	for _, c := range groups {
		valid[fmt.Sprint(c)] = true
	}
	options := map[[2]int][]api.Perm{}
	for i := range 5 {
		for p := i; p < 5; p++ {
			options[[2]int{i, p}] = candidates(5, i, p)
		}
	}
	expect := func(c api.Chain) {
		t.Helper()
		wanted := api.ErrForm
		if valid[fmt.Sprint(c)] {
			wanted = api.OK
		}
		if e := Check(c); e != wanted {
			t.Fatalf("Check(%v) = %d, want %d", c, int(e), int(wanted))
		}
	}
	for _, c := range groups {
		expect(c)
		for i := range 5 {
			for p := i; p < 5; p++ {
				at, found := slices.BinarySearch(c.Orbits[i], p)
				d := copied(c)
				if found {
					d.Orbits[i], d.Reps[i] = slices.Delete(d.Orbits[i], at, at+1), slices.Delete(d.Reps[i], at, at+1)
					expect(d)
				}
				d.Orbits[i], d.Reps[i] = slices.Insert(d.Orbits[i], at, p), slices.Insert(d.Reps[i], at, nil)
				for _, a := range options[[2]int{i, p}] {
					d.Reps[i][at] = a
					expect(d)
				}
			}
		}
	}
}

// TestTops tests P8.3: chains of a valid chain of a stabiliser and a first level of least elements, of which some make a group and others do not; against the elements that all representatives generate.
func TestTops(t *testing.T) {
	t.Parallel()
	r := rand.New(rand.NewSource(3))
	tried, valid := 0, 0
	for _, g := range small() {
		n := g.Degree
		if n < 4 || n > 6 || len(g.Gens) == 0 {
			continue
		}
		c := chainOf(g)
		for range 40 {
			d := copied(must[api.Chain](t)(Stab(c, 1)))
			elements := listed(n, g.Gens)
			for p := 1; p < n; p++ {
				x := api.Perm(r.Perm(n))
				if k := r.Intn(len(elements)); r.Intn(8) > 0 {
					x = slices.Clone(elements[k])
				}
				if x[0] == p || r.Intn(4) == 0 {
					x[slices.Index(x, p)], x[0] = x[0], p
					d.Orbits[0], d.Reps[0] = append(d.Orbits[0], p), append(d.Reps[0], textbookLeast(d, 1, x))
				}
			}
			wanted := api.ErrForm
			if same(d, textbook(n, listed(n, slices.Concat(d.Reps...)))) {
				wanted = api.OK
				valid++
			}
			if e := Check(d); e != wanted {
				t.Fatalf("Check(%v) = %d, want %d", d, int(e), int(wanted))
			}
			tried++
		}
	}
	if valid < 100 || tried-valid < 100 {
		t.Errorf("of %d chains, %d are valid", tried, valid)
	}
}

// checkGroup reports another result of isGroup for what has the shape of a chain than by the definition: the products of representatives, which are all different, are a group if the representatives generate no more elements than these. It returns whether they are.
func checkGroup(t *testing.T, c api.Chain) bool {
	t.Helper()
	table := newTable(c.Degree)
	for i, reps := range c.Reps {
		for _, r := range reps {
			table.enter(i, elementOf(r))
		}
	}
	wanted := len(listed(c.Degree, slices.Concat(c.Reps...))) == count(c)
	if table.isGroup(c.Orbits) != wanted {
		t.Fatalf("isGroup(%v) = %v", c, !wanted)
	}
	return wanted
}

// TestGroups tests P8.3: whether representatives that need not be the least ones make a group, for everything up to degree 4.
func TestGroups(t *testing.T) {
	t.Parallel()
	for n := 1; n <= 4; n++ {
		shapes(n, func(c api.Chain) { checkGroup(t, c) })
	}
}

// TestGroupsAbove tests P8.3: whether a stabiliser of degree 5 and representatives for the first level make a group; most of these, or all, are elements of a group that has the stabiliser in it.
func TestGroupsAbove(t *testing.T) {
	t.Parallel()
	r := rand.New(rand.NewSource(33))
	groups := subgroups(5)
	options := map[int][]api.Perm{}
	for p := 1; p < 5; p++ {
		options[p] = candidates(5, 0, p)
	}
	valid, tried := 0, 0
	for _, c := range groups {
		if len(c.Orbits[0]) > 1 {
			continue
		}
		for _, above := range groups {
			if !must[bool](t)(Below(c, above)) {
				continue
			}
			elements := listed(5, slices.Concat(above.Reps...))
			for range 30 {
				d := copied(c)
				odd := r.Intn(6)
				for p := 1; p < 5; p++ {
					l := slices.DeleteFunc(slices.Clone(elements), func(a api.Perm) bool { return a[0] != p })
					if p == odd {
						l = options[p]
					}
					if len(l) > 0 {
						d.Orbits[0], d.Reps[0] = append(d.Orbits[0], p), append(d.Reps[0], l[r.Intn(len(l))])
					}
				}
				if checkGroup(t, d) {
					valid++
				}
				tried++
			}
		}
	}
	if valid < 1000 || tried-valid < 1000 {
		t.Errorf("of %d, %d are groups", tried, valid)
	}
}

// TestCheckDegrees tests P8.3: which degrees there are, and that no other error comes before this one.
func TestCheckDegrees(t *testing.T) {
	for _, n := range badDegrees() {
		for _, c := range []api.Chain{{}, chainOf(four()), {Orbits: [][]int{}, Reps: [][]api.Perm{}}, {Orbits: [][]int{{0}}, Reps: [][]api.Perm{{{0}}}}, chainOf(api.Group{Degree: 64}), {Orbits: make([][]int, min(max(n, 0), 100)), Reps: make([][]api.Perm, min(max(n, 0), 100))}} {
			c.Degree = n
			if e := Check(c); e != api.ErrRange {
				t.Errorf("Check of degree %d: error %d", n, int(e))
			}
		}
	}
	c := api.Chain{Degree: 65}
	for i := range 65 {
		c.Orbits, c.Reps = append(c.Orbits, []int{i}), append(c.Reps, []api.Perm{one(65)})
	}
	if e := Check(c); e != api.ErrRange {
		t.Errorf("Check of degree 65: error %d", int(e))
	}
	for n := 1; n <= 64; n++ {
		for _, g := range []api.Group{{Degree: n}, {Degree: n, Gens: []api.Perm{cycle(n, 0, n)}}, all(min(n, 16))} {
			if e := Check(chainOf(g)); e != api.OK {
				t.Errorf("Check of degree %d: error %d", n, int(e))
			}
		}
	}
}

// broken returns chains of the degrees from 1 to 64 that are not valid, made from a valid one of a degree from 2 on.
func broken(c api.Chain) []api.Chain {
	var l []api.Chain
	change := func(f func(d *api.Chain)) {
		d := copied(c)
		f(&d)
		l = append(l, d)
	}
	n := c.Degree
	if n < 64 {
		change(func(d *api.Chain) { d.Degree++ })
	}
	change(func(d *api.Chain) { d.Degree-- })
	change(func(d *api.Chain) { d.Orbits = nil })
	change(func(d *api.Chain) { d.Reps = nil })
	change(func(d *api.Chain) { d.Orbits, d.Reps = nil, nil })
	change(func(d *api.Chain) { d.Orbits = d.Orbits[:n-1] })
	change(func(d *api.Chain) { d.Reps = d.Reps[:n-1] })
	change(func(d *api.Chain) { d.Orbits, d.Reps = d.Orbits[:n-1], d.Reps[:n-1] })
	change(func(d *api.Chain) { d.Orbits, d.Reps = d.Orbits[1:], d.Reps[1:] })
	change(func(d *api.Chain) { d.Orbits, d.Reps = append(d.Orbits, []int{n}), append(d.Reps, []api.Perm{one(n)}) })
	change(func(d *api.Chain) { d.Orbits = make([][]int, 1000) })
	for _, i := range []int{0, 1, n / 2, n - 2, n - 1} {
		change(func(d *api.Chain) { d.Orbits[i] = nil })
		change(func(d *api.Chain) { d.Reps[i] = nil })
		change(func(d *api.Chain) { d.Orbits[i], d.Reps[i] = nil, nil })
		change(func(d *api.Chain) { d.Orbits[i] = append(d.Orbits[i], n) })
		change(func(d *api.Chain) { d.Orbits[i] = append(d.Orbits[i], d.Orbits[i][len(d.Orbits[i])-1]) })
		change(func(d *api.Chain) { d.Orbits[i] = make([]int, 1000) })
		change(func(d *api.Chain) { d.Reps[i] = append(d.Reps[i], one(n)) })
		change(func(d *api.Chain) { d.Reps[i] = make([]api.Perm, 1000) })
		for _, p := range []int{-1, n, i + 256, -256 + i, math.MinInt, math.MaxInt, i + 1<<32} {
			change(func(d *api.Chain) { d.Orbits[i][0] = p })
			change(func(d *api.Chain) { d.Orbits[i][len(d.Orbits[i])-1] = p })
			change(func(d *api.Chain) { d.Orbits[i], d.Reps[i] = append(d.Orbits[i], p), append(d.Reps[i], one(n)) })
			change(func(d *api.Chain) {
				d.Orbits[i], d.Reps[i] = append([]int{p}, d.Orbits[i]...), append([]api.Perm{one(n)}, d.Reps[i]...)
			})
			change(func(d *api.Chain) { d.Reps[i][0][i] = p })
			change(func(d *api.Chain) { d.Reps[i][len(d.Reps[i])-1][n-1] = p })
		}
		change(func(d *api.Chain) {
			d.Orbits[i], d.Reps[i] = slices.Insert(d.Orbits[i], 1, i), slices.Insert(d.Reps[i], 1, one(n))
		})
		for _, x := range badPerms(n) {
			change(func(d *api.Chain) { d.Reps[i][0] = x.a })
			change(func(d *api.Chain) { d.Reps[i][len(d.Reps[i])-1] = x.a })
		}
		if i+2 < n {
			change(func(d *api.Chain) { d.Reps[i][0] = cycle(n, n-2, 2) })
			change(func(d *api.Chain) { d.Reps[i][0] = cycle(n, i+1, 2) })
		}
		if len(c.Orbits[i]) > 1 {
			change(func(d *api.Chain) { d.Orbits[i], d.Reps[i] = d.Orbits[i][1:], d.Reps[i][1:] })
			change(func(d *api.Chain) { d.Orbits[i][0], d.Orbits[i][1] = d.Orbits[i][1], d.Orbits[i][0] })
			change(func(d *api.Chain) { d.Reps[i][0], d.Reps[i][1] = d.Reps[i][1], d.Reps[i][0] })
			change(func(d *api.Chain) {
				slices.Reverse(d.Orbits[i])
				slices.Reverse(d.Reps[i])
			})
			change(func(d *api.Chain) { d.Reps[i][1] = one(n) })
			change(func(d *api.Chain) {
				d.Orbits[i], d.Reps[i] = slices.Insert(d.Orbits[i], 1, d.Orbits[i][1]), slices.Insert(d.Reps[i], 1, d.Reps[i][1])
			})
		}
		if len(c.Orbits[i]) > 2 {
			change(func(d *api.Chain) {
				d.Orbits[i][1], d.Orbits[i][2] = d.Orbits[i][2], d.Orbits[i][1]
				d.Reps[i][1], d.Reps[i][2] = d.Reps[i][2], d.Reps[i][1]
			})
			change(func(d *api.Chain) {
				d.Orbits[i], d.Reps[i] = slices.Delete(d.Orbits[i], 1, 2), slices.Delete(d.Reps[i], 1, 2)
			})
			last := len(c.Orbits[i]) - 1
			change(func(d *api.Chain) { d.Orbits[i], d.Reps[i] = d.Orbits[i][:last], d.Reps[i][:last] })
		}
		if i > 0 && len(c.Orbits[i-1]) > 1 {
			change(func(d *api.Chain) { d.Orbits[i], d.Reps[i] = []int{i}, []api.Perm{one(n)}; d.Orbits[n-1] = []int{n} })
			change(func(d *api.Chain) {
				d.Orbits[i], d.Reps[i] = append(d.Orbits[i], d.Orbits[i-1][0]), append(d.Reps[i], one(n))
			})
		}
	}
	return l
}

// TestBroken tests P8.3: chains with faults of all kinds, none of which is the chain of another group.
func TestBroken(t *testing.T) {
	t.Parallel()
	for _, g := range []api.Group{{Degree: 2}, all(2), all(3), all(4), four(), of(4, "(2 3)"), of(4, "(0 1 2)"), of(5, "(0 1 2)", "(3 4)"), of(6, "(0 2 4)", "(1 3 5)"), all(7), {Degree: 64}, all(64), {Degree: 64, Gens: []api.Perm{cycle(64, 1, 63)}}} {
		c := chainOf(g)
		before := copied(c)
		for _, d := range broken(c) {
			if e := Check(d); e != api.ErrForm {
				t.Fatalf("Check(%v) = %d", d, int(e))
			}
		}
		if Check(c) != api.OK || !same(c, before) {
			t.Fatalf("the chain of %v is broken", g)
		}
	}
}

// TestGreatChanges tests P8.3: in chains of great groups, representatives that are elements, but not the least ones; that are permutations without being elements; and levels whose orbits are too small.
func TestGreatChanges(t *testing.T) {
	t.Parallel()
	r := rand.New(rand.NewSource(9))
	for _, k := range great() {
		c := chainOf(k.g)
		n := c.Degree
		for i := range n {
			if len(c.Orbits[i]) == 1 || len(c.Orbits[i]) > 20 && r.Intn(4) > 0 {
				continue
			}
			at := 1 + r.Intn(len(c.Orbits[i])-1)
			d := copied(c)
			for level := i + 1; level < n; level++ {
				if size := len(c.Orbits[level]); size > 1 {
					d.Reps[i][at] = mul(c.Reps[level][1+r.Intn(size-1)], c.Reps[i][at])
					break
				}
			}
			if !same(c, d) && Check(d) != api.ErrForm {
				t.Fatalf("%s: level %d, the element %v is not the least one", k.name, i, d.Reps[i][at])
			}
			x := slices.Clone(c.Reps[i][at])
			a, b := i+1+r.Intn(n-i-1), i+1+r.Intn(n-i-1)
			x[a], x[b] = x[b], x[a]
			d.Reps[i][at] = x
			if _, level := textbookSift(c, x); level < n && Check(d) != api.ErrForm {
				t.Fatalf("%s: level %d, %v is no element", k.name, i, x)
			}
			d = copied(c)
			d.Orbits[i], d.Reps[i] = slices.Delete(d.Orbits[i], at, at+1), slices.Delete(d.Reps[i], at, at+1)
			// A level of two points that loses one may leave the chain of a stabiliser.
			if e := Check(d); e != api.ErrForm && (e != api.OK || len(d.Orbits[i]) > 1 || !same(d, must[api.Chain](t)(Make(n, slices.Concat(d.Reps...))))) {
				t.Fatalf("%s: level %d without the point %d: error %d", k.name, i, c.Orbits[i][at], int(e))
			}
		}
	}
}

// ofChain returns calls of the functions that take a chain, with arguments of the degree n for the others, which return whether everything but the error is zero.
func ofChain(n int) map[string]func(c api.Chain) (bool, api.Errno) {
	d, x := chainOf(api.Group{Degree: n}), one(n)
	return map[string]func(c api.Chain) (bool, api.Errno){
		"Order":           func(c api.Chain) (bool, api.Errno) { order, e := Order(c); return order == "", e },
		"Sift":            func(c api.Chain) (bool, api.Errno) { r, level, e := Sift(c, x); return len(r)+level == 0, e },
		"Sift of nothing": func(c api.Chain) (bool, api.Errno) { r, level, e := Sift(c, nil); return len(r)+level == 0, e },
		"Sift of length 66": func(c api.Chain) (bool, api.Errno) {
			r, level, e := Sift(c, make(api.Perm, 66))
			return len(r)+level == 0, e
		},
		"In":               func(c api.Chain) (bool, api.Errno) { is, e := In(c, x); return !is, e },
		"In of nothing":    func(c api.Chain) (bool, api.Errno) { is, e := In(c, nil); return !is, e },
		"In of two points": func(c api.Chain) (bool, api.Errno) { is, e := In(c, api.Perm{1, 0}); return !is, e },
		"Below":            func(c api.Chain) (bool, api.Errno) { is, e := Below(c, d); return !is, e },
		"Below a fault":    func(c api.Chain) (bool, api.Errno) { is, e := Below(c, api.Chain{Degree: 1}); return !is, e },
		"Below no degree":  func(c api.Chain) (bool, api.Errno) { is, e := Below(c, api.Chain{}); return !is, e },
		"Below, behind":    func(c api.Chain) (bool, api.Errno) { is, e := Below(d, c); return !is, e },
		"Stab":             func(c api.Chain) (bool, api.Errno) { s, e := Stab(c, 0); return zero(s), e },
		"Stab(-1)":         func(c api.Chain) (bool, api.Errno) { s, e := Stab(c, -1); return zero(s), e },
		"Stab(100)":        func(c api.Chain) (bool, api.Errno) { s, e := Stab(c, 100); return zero(s), e },
		"Strong":           func(c api.Chain) (bool, api.Errno) { l, e := Strong(c); return len(l) == 0, e },
	}
}

// TestFaultyChains tests P8.3: the functions that take a chain return its error, before any other.
func TestFaultyChains(t *testing.T) {
	t.Parallel()
	faulty := []struct {
		c api.Chain
		e api.Errno
	}{
		{api.Chain{}, api.ErrRange}, {api.Chain{Degree: 65}, api.ErrRange}, {api.Chain{Degree: math.MinInt}, api.ErrRange}, {api.Chain{Degree: 1}, api.ErrForm}, {api.Chain{Degree: 64}, api.ErrForm},
	}
	for _, g := range []api.Group{four(), all(4), of(7, "(0 1 2)", "(2 3 4)", "(4 5 6)")} {
		for _, d := range broken(chainOf(g)) {
			faulty = append(faulty, struct {
				c api.Chain
				e api.Errno
			}{d, api.ErrForm})
		}
	}
	for name, f := range ofChain(4) {
		for _, x := range faulty {
			if zero, e := f(x.c); !zero || e != x.e {
				t.Fatalf("%s of %v has the error %d, want %d", name, x.c, int(e), int(x.e))
			}
		}
	}
	for _, x := range faulty {
		for _, y := range faulty {
			if is, e := Below(x.c, y.c); is || e != x.e {
				t.Fatalf("Below(%v, %v) has the error %d, want %d", x.c, y.c, int(e), int(x.e))
			}
		}
	}
}

// TestCheckExamples tests P8.3 with the chapter's examples.
func TestCheckExamples(t *testing.T) {
	if e := Check(api.Chain{}); e != api.ErrRange {
		t.Errorf("Check of Degree 0: error %d", int(e))
	}
	h := chainOf(four())
	if e := Check(h); e != api.OK {
		t.Errorf("Check of h: error %d", int(e))
	}
	h.Orbits[0] = h.Orbits[0][:3]
	if e := Check(h); e != api.ErrForm {
		t.Errorf("Check of h with the orbit 0 1 2: error %d", int(e))
	}
	h.Reps[0] = h.Reps[0][:3]
	if e := Check(h); e != api.ErrForm {
		t.Errorf("Check of h with three representatives: error %d", int(e))
	}
}
