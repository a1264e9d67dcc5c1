package orbit

import (
	"math"
	"slices"
	"testing"

	"cayley/api"
)

// ofPoint returns the functions of a group and a point, that return whether everything but the error is zero. Those of other arguments get ones that fit.
func ofPoint(q int) map[string]func(g api.Group, p int) (bool, api.Errno) {
	return map[string]func(g api.Group, p int) (bool, api.Errno){
		"Orbit": func(g api.Group, p int) (bool, api.Errno) { l, e := Orbit(g, p); return len(l) == 0, e },
		"Tree": func(g api.Group, p int) (bool, api.Errno) {
			points, parents, gens, e := Tree(g, p)
			return len(points)+len(parents)+len(gens) == 0, e
		},
		"Path from": func(g api.Group, p int) (bool, api.Errno) { w, e := Path(g, p, q); return len(w) == 0, e },
		"Path to":   func(g api.Group, p int) (bool, api.Errno) { w, e := Path(g, q, p); return len(w) == 0, e },
		"Stab":      func(g api.Group, p int) (bool, api.Errno) { l, e := Stab(g, p); return len(l) == 0, e },
	}
}

// ofList is ofPoint for the functions of a group and a list.
func ofList() map[string]func(g api.Group, l []int) (bool, api.Errno) {
	return map[string]func(g api.Group, l []int) (bool, api.Errno){
		"Sets":   func(g api.Group, l []int) (bool, api.Errno) { images, e := Sets(g, l); return len(images) == 0, e },
		"Tuples": func(g api.Group, l []int) (bool, api.Errno) { images, e := Tuples(g, l); return len(images) == 0, e },
	}
}

// badPoints are no points of degree n.
func badPoints(n int) []int {
	l := []int{math.MinInt, math.MinInt + 1, -1 << 32, -n, -2, -1, n, n + 1, 64, 65, 1 << 32, 1<<32 + 1, math.MaxInt - 1, math.MaxInt}
	return slices.DeleteFunc(l, func(p int) bool { return p >= 0 && p < n })
}

// faulty returns groups with faults.
func faulty() []api.Group {
	var l []api.Group
	for _, n := range badDegrees() {
		for _, gens := range [][]api.Perm{nil, {identity(1)}, {nil}, make([]api.Perm, 17)} {
			l = append(l, api.Group{Degree: n, Gens: gens})
		}
	}
	for _, n := range []int{1, 2, 5, 63, 64} {
		l = append(l, api.Group{Degree: n, Gens: slices.Repeat([]api.Perm{identity(n)}, 17)}, api.Group{Degree: n, Gens: make([]api.Perm, 18)})
		for _, x := range badGenerators(n) {
			for _, y := range badGenerators(n) {
				l = append(l, api.Group{Degree: n, Gens: []api.Perm{x.a, y.a}}, api.Group{Degree: n, Gens: []api.Perm{identity(n), x.a, identity(n)}})
			}
		}
	}
	return l
}

// TestFaultyGroups tests that all functions return the error of Check for their group, before any other.
func TestFaultyGroups(t *testing.T) {
	for _, g := range faulty() {
		wanted := Check(g)
		if wanted == api.OK {
			t.Fatalf("Check(%v) finds no fault", g)
		}
		orbits, e := Orbits(g)
		want(t, "Orbits", orbits, e, nil, wanted)
		for _, p := range []int{0, 1, -1, 5, 64, math.MinInt, math.MaxInt} {
			for name, f := range ofPoint(0) {
				if zero, e := f(g, p); !zero || e != wanted {
					t.Fatalf("%s(%v, %d) has the error %d, want %d", name, g, p, int(e), int(wanted))
				}
			}
		}
		for _, l := range [][]int{nil, {0}, {1, 0}, {0, 0}, {-1}, {64}, make([]int, 64), make([]int, 65), repeated(-1, 65)} {
			for name, f := range ofList() {
				if zero, e := f(g, l); !zero || e != wanted {
					t.Fatalf("%s(%v, %v) has the error %d, want %d", name, g, l, int(e), int(wanted))
				}
			}
		}
	}
}

// valid returns groups of several degrees and numbers of generators.
func valid() []api.Group {
	var l []api.Group
	for _, n := range []int{1, 2, 5, 63, 64} {
		l = append(l, api.Group{Degree: n}, cycles(n, n), all(n, n), cycles(n, 1), api.Group{Degree: n, Gens: slices.Repeat([]api.Perm{cycle(n, 0, n)}, 16)})
	}
	return l
}

// TestPoints tests P7.2 to P7.4: what is no point, and that the least and the greatest point are points.
func TestPoints(t *testing.T) {
	for _, g := range valid() {
		for _, q := range []int{0, g.Degree - 1} {
			for name, f := range ofPoint(q) {
				for _, p := range badPoints(g.Degree) {
					if zero, e := f(g, p); !zero || e != api.ErrRange {
						t.Errorf("%s of degree %d, point %d: error %d", name, g.Degree, p, int(e))
					}
				}
				if _, e := f(g, q); e != api.OK {
					t.Errorf("%s of degree %d, point %d: error %d", name, g.Degree, q, int(e))
				}
			}
		}
	}
}

// TestTwoPoints tests P7.3: Path looks whether both points are points before it looks for a path.
func TestTwoPoints(t *testing.T) {
	for _, g := range valid() {
		for _, p := range badPoints(g.Degree) {
			for _, q := range badPoints(g.Degree) {
				w, e := Path(g, p, q)
				wantList(t, "Path", w, e, nil, api.ErrRange)
			}
		}
	}
	for _, n := range []int{1, 2, 63, 64} {
		for p := range n {
			for q := range n {
				wanted := api.OK
				if p != q {
					wanted = api.ErrNone
				}
				w, e := Path(api.Group{Degree: n}, p, q)
				wantList(t, "Path without generators", w, e, nil, wanted)
			}
		}
	}
}

// TestListsOfNoPoints tests P7.5: elements that are no points, at all places, also together with other faults.
func TestListsOfNoPoints(t *testing.T) {
	for _, g := range valid() {
		for _, l := range [][]int{identity(g.Degree), {0, 0}, make([]int, 5), make([]int, 64), make([]int, 65), make([]int, 66), make([]int, 1000), append(identity(g.Degree), 0), repeated(g.Degree-1, 65)} {
			for _, i := range []int{0, 1, len(l) / 2, len(l) - 2, len(l) - 1} {
				for _, p := range badPoints(g.Degree) {
					bad := slices.Clone(l)
					bad[max(0, min(i, len(l)-1))] = p
					for name, f := range ofList() {
						if zero, e := f(g, bad); !zero || e != api.ErrRange {
							t.Fatalf("%s of %d points of degree %d, among them %d: error %d", name, len(l), g.Degree, p, int(e))
						}
					}
				}
			}
		}
	}
}

// TestOrder tests P7.5: sets have to ascend, tuples need not. Of too many elements, some do not ascend.
func TestOrder(t *testing.T) {
	for _, g := range []api.Group{{Degree: 5}, example(), {Degree: 63}, {Degree: 64}, cycles(64, 64)} {
		for _, l := range [][]int{{0, 0}, {1, 0}, {4, 4}, {0, 1, 1}, {0, 0, 1}, {0, 2, 1}, {1, 0, 2}, {0, 1, 2, 3, 3}, {0, 1, 2, 4, 3}, {4, 3, 2, 1, 0}, {3, 3, 3}, repeated(0, 64), repeated(4, 64), append(sequence(0, 5), repeated(4, 59)...)} {
			sets, e := Sets(g, l)
			want(t, "Sets", sets, e, nil, api.ErrOrder)
			tuples, e := Tuples(g, l)
			if e != api.OK || !slices.ContainsFunc(tuples, func(x []int) bool { return slices.Equal(x, l) }) {
				t.Fatalf("Tuples(%v, %v) = %v, error %d", g, l, tuples, int(e))
			}
		}
	}
	for i := range 64 {
		for k := range 64 {
			if k == i {
				continue
			}
			l := identity(64)
			l[i] = k
			sets, e := Sets(api.Group{Degree: 64}, l)
			want(t, "Sets", sets, e, nil, api.ErrOrder)
		}
	}
}

// TestLong tests P7.5: how long tuples may be. Longer sets do not ascend, which comes first.
func TestLong(t *testing.T) {
	for _, g := range valid() {
		for _, length := range []int{65, 66, 100, 128, 1000} {
			for _, l := range [][]int{make([]int, length), repeated(g.Degree-1, length), append(repeated(0, length-1), g.Degree-1), append(identity(g.Degree), make([]int, length-g.Degree)...)} {
				tuples, e := Tuples(g, l)
				want(t, "Tuples", tuples, e, nil, api.ErrLong)
				sets, e := Sets(g, l)
				want(t, "Sets", sets, e, nil, api.ErrOrder)
			}
		}
		for _, length := range []int{63, 64} {
			if l, e := Tuples(g, repeated(g.Degree-1, length)); e != api.OK || len(l) < 1 || len(l[0]) != length {
				t.Errorf("Tuples of %d points of degree %d: %d images, error %d", length, g.Degree, len(l), int(e))
			}
		}
	}
	// The length is looked at before the number of images.
	tuples, e := Tuples(all(64, 64), append(identity(64), 0))
	want(t, "Tuples", tuples, e, nil, api.ErrLong)
	tuples, e = Tuples(all(64, 64), identity(64))
	want(t, "Tuples", tuples, e, nil, api.ErrOver)
}
