package orbit

import (
	"fmt"
	"slices"
	"testing"

	"cayley/api"
	"cayley/perm"
)

// wantStab reports other Schreier generators than the expected ones.
func wantStab(t *testing.T, g api.Group, p int, texts ...string) {
	t.Helper()
	l, e := Stab(g, p)
	want(t, "Stab", lists(l), e, lists(parse(g.Degree, texts...)), api.OK)
}

// TestStabExamples tests P7.4 with the chapter's example.
func TestStabExamples(t *testing.T) {
	wantStab(t, example(), 0, "(3 4)")
}

// TestStab tests P7.4: stabilisers that are known, in which the identity and what occurred before is left out. Among the generators are the identity, some twice, and some that are their own inverses.
func TestStab(t *testing.T) {
	wantStab(t, example(), 3, "(0 1 2)")
	wantStab(t, example(), 4, "(0 1 2)")
	wantStab(t, of(3, "(0 1)", "(1 2)"), 0, "(1 2)")
	wantStab(t, of(3, "(0 1 2)", "(0 1)"), 0, "(1 2)")
	wantStab(t, all(4, 4), 0, "(1 3 2)", "(1 2 3)", "(2 3)", "(1 2)")
	wantStab(t, all(4, 4), 2, "(0 1)", "(0 3)", "(0 3 1)", "(0 1 3)")
	wantStab(t, of(4, "(0 1)(2 3)", "(0 2)(1 3)"), 0)
	wantStab(t, of(4, "(0 1)(2 3)", "(0 2)(1 3)"), 3)
	wantStab(t, of(4, "(0 1)", "(0 1)(2 3)", "(0 2)"), 0, "(2 3)", "(1 2)", "(1 3)")
	wantStab(t, of(5, "(3 4)", "(0 1 2)", "()", "(3 4)", "(0 1)"), 0, "(3 4)", "(1 2)")
	wantStab(t, of(5, "(3 4)", "(0 1 2)", "()", "(3 4)", "(0 1)"), 4, "(0 1 2)", "(0 1)")
	wantStab(t, of(5, "(0 1 2 3 4)", "(1 2)", "(0 1 2 3 4)"), 1, "(0 4 3 2)", "(0 2 3 4)", "(0 4)", "(3 4)", "(2 3)")
	wantStab(t, of(6, "(0 1 2)", "(0 2 1)(3 4 5)", "(0 3)"), 0, "(3 5 4)", "(3 4 5)", "(2 3)", "(1 5)", "(1 2 3)", "(2 4)")
	wantStab(t, of(6, "(0 1 2 3 4 5)", "(0 5 4 3 2 1)"), 2)
	wantStab(t, of(4, "(1 2 3)", "(2 3)", "(1 2 3)"), 0, "(1 2 3)", "(2 3)")
	wantStab(t, of(4, "(2 3)", "(1 2 3)", "()"), 0, "(2 3)", "(1 2 3)")
	wantStab(t, of(3, "(0 2)"), 1, "(0 2)")
	wantStab(t, of(3, "()"), 1)
	wantStab(t, api.Group{Degree: 3}, 1)
	wantStab(t, api.Group{Degree: 1}, 0)
	wantStab(t, of(1, "()", "()"), 0)
	wantStab(t, of(2, "(0 1)", "()", "(0 1)"), 1)
}

// TestStabEvery tests P7.4: the Schreier generators of many groups, by the words of the chapter.
func TestStabEvery(t *testing.T) {
	for _, g := range small() {
		for p := range g.Degree {
			l, e := Stab(g, p)
			want(t, "Stab", lists(l), e, lists(textbookStab(g, p)), api.OK)
		}
	}
}

// TestStabGreat tests P7.4: groups of the greatest degrees, also with as many Schreier generators as there can be.
func TestStabGreat(t *testing.T) {
	most := 0
	for i, g := range great() {
		for _, p := range []int{0, i, g.Degree - 1} {
			l, e := Stab(g, p%g.Degree)
			want(t, "Stab", lists(l), e, lists(textbookStab(g, p%g.Degree)), api.OK)
			most = max(most, len(l))
		}
	}
	if most < 500 {
		t.Errorf("no stabiliser has more than %d generators", most)
	}
	// Every pair of a point and a generator gives another one, but for those of the tree.
	g := api.Group{Degree: 64, Gens: []api.Perm{cycle(64, 0, 64)}}
	for k := range 15 {
		g.Gens = append(g.Gens, times(64, cycle(64, 0, 2+k), cycle(64, 20, 30+k)))
	}
	if l, e := Stab(g, 5); e != api.OK || len(l) != len(textbookStab(g, 5)) || len(l) < 900 {
		t.Errorf("%d Schreier generators, error %d", len(l), int(e))
	}
}

// TestStabiliser tests P7.8: the Schreier generators generate the stabiliser, whose number of elements times the length of the orbit is that of the group.
func TestStabiliser(t *testing.T) {
	for _, g := range small() {
		group := elements(g)
		for p := range g.Degree {
			l, e := Stab(g, p)
			if e != api.OK {
				t.Fatalf("Stab(%v, %d): error %d", g, p, int(e))
			}
			var fixing []string
			for _, a := range group {
				if a[p] == p {
					fixing = append(fixing, fmt.Sprint(a))
				}
			}
			var generated []string
			for _, a := range elements(api.Group{Degree: g.Degree, Gens: l}) {
				generated = append(generated, fmt.Sprint(a))
			}
			slices.Sort(fixing)
			slices.Sort(generated)
			if !slices.Equal(fixing, generated) {
				t.Fatalf("Stab(%v, %d) = %v generates %d elements, but %d fix the point", g, p, l, len(generated), len(fixing))
			}
			if orbit, e := Orbit(g, p); e != api.OK || len(generated)*len(orbit) != len(group) {
				t.Fatalf("%d elements of %d fix %d, with the orbit %v", len(generated), len(group), p, orbit)
			}
		}
	}
}

// TestFixing tests P7.4: in groups of great degrees, too, all Schreier generators are permutations that fix the point, no one is the identity, no one occurs twice.
func TestFixing(t *testing.T) {
	for i, g := range great() {
		p := 7 * i % g.Degree
		l, e := Stab(g, p)
		if e != api.OK {
			t.Fatalf("Stab(%v, %d): error %d", g, p, int(e))
		}
		occurred := map[string]bool{fmt.Sprint(identity(g.Degree)): true}
		for _, a := range l {
			if perm.Check(a) != api.OK || len(a) != g.Degree || a[p] != p || occurred[fmt.Sprint(a)] {
				t.Fatalf("Stab(%v, %d) has %v", g, p, a)
			}
			occurred[fmt.Sprint(a)] = true
		}
	}
}
