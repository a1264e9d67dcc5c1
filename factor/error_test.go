package factor

import (
	"slices"
	"testing"

	"cayley/api"
)

// expectNothing reports a result of a call that should have an error.
func expectNothing(t *testing.T, name string, e, wanted api.Errno, zero bool) {
	t.Helper()
	if e != wanted || !zero {
		t.Fatalf("%s: error %d, want %d; other results are zero: %t", name, int(e), int(wanted), zero)
	}
}

// badPerm is a list that is no permutation of a degree, with its error.
type badPerm struct {
	x api.Perm
	e api.Errno
}

// badPerms returns lists that are no permutations of the degree n.
func badPerms(n int) []badPerm {
	l := []badPerm{
		{nil, api.ErrRange}, {api.Perm{}, api.ErrRange}, {make(api.Perm, 65), api.ErrRange}, {make(api.Perm, 1000), api.ErrRange},
		{api.Perm{1}, api.ErrForm}, {api.Perm{-1}, api.ErrForm}, {api.Perm{0, 0}, api.ErrForm}, {make(api.Perm, 64), api.ErrForm},
		{append(unit(n)[1:], n), api.ErrForm}, {append(unit(n)[1:], -1), api.ErrForm}, {append(unit(n)[1:], 256), api.ErrForm},
	}
	for _, k := range []int{1, 2, n - 1, n + 1, 16, 17, 63, 64} {
		if k != n && k >= 1 && k <= 64 {
			l = append(l, badPerm{unit(k), api.ErrType}, badPerm{cycle(k, 0, k), api.ErrType})
		}
	}
	return l
}

// badGroup is a group that is not valid, with its error.
type badGroup struct {
	g api.Group
	e api.Errno
}

// badGroups returns groups that are not valid.
func badGroups() []badGroup {
	var l []badGroup
	for _, n := range []int{0, -1, 65, 1 << 32, -1 << 63} {
		l = append(l, badGroup{group(n), api.ErrRange}, badGroup{group(n, unit(3)), api.ErrRange}, badGroup{group(n, make([]api.Perm, 17)...), api.ErrRange})
	}
	for _, n := range []int{1, 3, 16, 17, 64} {
		l = append(l, badGroup{group(n, make([]api.Perm, 17)...), api.ErrLong}, badGroup{group(n, slices.Repeat([]api.Perm{unit(n)}, 17)...), api.ErrLong})
		for _, x := range badPerms(n) {
			l = append(l, badGroup{group(n, x.x), x.e}, badGroup{group(n, unit(n), x.x), x.e})
			for _, y := range badPerms(n) {
				l = append(l, badGroup{group(n, x.x, y.x), x.e})
			}
		}
	}
	return l
}

// TestGroupErrors tests P10.1 to P10.3: the error of the group comes first, whatever else is wrong.
func TestGroupErrors(t *testing.T) {
	t.Parallel()
	for _, b := range badGroups() {
		for _, w := range []api.Word{nil, {0}, {1}, make(api.Word, api.MaxWord+1)} {
			x, e := Eval(b.g, w)
			expectNothing(t, "Eval", e, b.e, len(x) == 0)
		}
		for _, l := range [][]api.Step{nil, {{}}, {{Op: api.StepInv}}, make([]api.Step, api.MaxSteps+1)} {
			x, e := Run(b.g, l)
			expectNothing(t, "Run", e, b.e, len(x) == 0)
		}
		l, e := Words(b.g)
		expectNothing(t, "Words", e, b.e, len(l) == 0)
		n, e := Growth(b.g)
		expectNothing(t, "Growth", e, b.e, len(n) == 0)
		for _, x := range []api.Perm{nil, {0, 0}, unit(1), unit(3), unit(64)} {
			w, e := Least(b.g, x)
			expectNothing(t, "Least", e, b.e, len(w) == 0)
			expectNoProgram(t, b.g, x, b.e)
		}
	}
}

// TestPermErrors tests P10.2 and P10.3: the error of a permutation, and ErrType for another degree, come before ErrOver and ErrNone.
func TestPermErrors(t *testing.T) {
	for _, n := range []int{1, 2, 3, 8, 16, 17, 63, 64} {
		for _, g := range []api.Group{group(n), group(n, unit(n)), group(n, cycle(n, 0, n)), all(n, 0, n)} {
			for _, x := range badPerms(n) {
				w, e := Least(g, x.x)
				expectNothing(t, "Least", e, x.e, len(w) == 0)
				expectNoProgram(t, g, x.x, x.e)
			}
		}
	}
}
