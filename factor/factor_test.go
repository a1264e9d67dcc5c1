package factor

import (
	"math"
	"math/rand"
	"slices"
	"testing"

	"cayley/api"
)

// words returns valid words for a number of generators.
func words(r *rand.Rand, gens int) []api.Word {
	l := []api.Word{nil, {}}
	if gens == 0 {
		return l
	}
	for s := range gens {
		l = append(l, api.Word{s + 1}, api.Word{-s - 1}, api.Word{s + 1, -s - 1}, api.Word{-s - 1, -s - 1, s + 1})
	}
	for _, length := range []int{2, 3, 10, 100, api.MaxWord - 1, api.MaxWord} {
		w := make(api.Word, length)
		for i := range w {
			if w[i] = 1 + r.Intn(gens); r.Intn(2) == 0 {
				w[i] = -w[i]
			}
		}
		l = append(l, w)
	}
	return l
}

// many returns groups of all degrees, with all numbers of generators.
func many(r *rand.Rand) []api.Group {
	var l []api.Group
	for n := 1; n <= api.MaxDegree; n++ {
		g := group(n)
		for range n % (api.MaxGens + 1) {
			g.Gens = append(g.Gens, r.Perm(n))
		}
		l = append(l, g)
	}
	return append(l, slices.Concat(tiny(), medium())...)
}

// TestEvalExamples tests P10.1 by the chapter's examples.
func TestEvalExamples(t *testing.T) {
	for _, x := range []struct {
		g    api.Group
		w    api.Word
		want string
	}{{three(), api.Word{1, 2}, "(0 2 1)"}, {three(), api.Word{2, 1}, "(0 1 2)"}, {three(), api.Word{1, -2, 1}, "(0 2)"}, {three(), nil, "()"}, {five(), api.Word{-1, -1}, "(0 3 1 4 2)"}} {
		if a, e := Eval(x.g, x.w); e != api.OK || !slices.Equal(a, parse(x.g.Degree, x.want)[0]) {
			t.Errorf("Eval(%v) = %v, error %d", x.w, a, int(e))
		}
	}
}

// TestEval tests P10.1: the value of a word is the product of its letters, from left to right.
func TestEval(t *testing.T) {
	t.Parallel()
	r := rand.New(rand.NewSource(101))
	for _, g := range many(r) {
		for _, w := range words(r, len(g.Gens)) {
			if x := must[api.Perm](t)(Eval(g, w)); !slices.Equal(x, valueOf(g, w)) {
				t.Fatalf("Eval(%v, %v) = %v", g, w, x)
			}
		}
	}
}

// TestEvalErrors tests P10.1: ErrLong comes before ErrRange, and one wrong letter is enough.
func TestEvalErrors(t *testing.T) {
	t.Parallel()
	r := rand.New(rand.NewSource(102))
	for _, g := range many(r) {
		n := len(g.Gens)
		for _, letter := range []int{0, n + 1, -n - 1, 17, -17, 1 << 32, math.MaxInt, -math.MaxInt, math.MinInt} {
			for _, w := range words(r, n) {
				for _, at := range []int{0, len(w) / 2, len(w)} {
					v, wanted := slices.Insert(slices.Clone(w), at, letter), api.ErrRange
					if len(v) > api.MaxWord {
						wanted = api.ErrLong
					}
					x, e := Eval(g, v)
					expectNothing(t, "Eval", e, wanted, len(x) == 0)
				}
			}
		}
		for _, length := range []int{api.MaxWord + 1, 2 * api.MaxWord} {
			for _, letter := range []int{0, 1, n + 1} {
				x, e := Eval(g, slices.Repeat(api.Word{letter}, length))
				expectNothing(t, "Eval", e, api.ErrLong, len(x) == 0)
			}
		}
	}
}

// steps returns a valid program of a number of steps for a list that begins with a number of generators, which is not 0.
func steps(r *rand.Rand, gens, length int) []api.Step {
	var l []api.Step
	for i := range length {
		s := api.Step{Op: api.StepMul, A: r.Intn(gens + i), B: r.Intn(gens + i)}
		if r.Intn(3) == 0 {
			// Of an inverse, B may be anything.
			s.Op, s.B = api.StepInv, []int{0, -1, gens + i, 1 << 40, math.MaxInt, math.MinInt}[r.Intn(6)]
		}
		l = append(l, s)
	}
	return l
}

// TestRunExamples tests P10.1 by the chapter's examples, and the first and the last element of the list.
func TestRunExamples(t *testing.T) {
	for _, x := range []struct {
		l    []api.Step
		want string
	}{
		{[]api.Step{{Op: api.StepMul, A: 0, B: 1}, {Op: api.StepMul, A: 2, B: 0}}, "(0 2)"}, {nil, "()"}, {[]api.Step{}, "()"}, {[]api.Step{{Op: api.StepMul, A: 0, B: 1}}, "(0 2 1)"}, {[]api.Step{{Op: api.StepMul, A: 1, B: 0}}, "(0 1 2)"},
		{[]api.Step{{Op: api.StepMul, A: 0, B: 1}, {Op: api.StepInv, A: 2, B: -5}}, "(0 1 2)"}, {[]api.Step{{Op: api.StepMul, A: 0, B: 1}, {Op: api.StepMul, A: 2, B: 2}, {Op: api.StepInv, A: 0}}, "(0 1)"},
	} {
		if a, e := Run(three(), x.l); e != api.OK || !slices.Equal(a, parse(3, x.want)[0]) {
			t.Errorf("Run(%v) = %v, error %d", x.l, a, int(e))
		}
	}
}

// TestRun tests P10.1: the value of a program is the last element that it appends.
func TestRun(t *testing.T) {
	t.Parallel()
	r := rand.New(rand.NewSource(103))
	for _, g := range many(r) {
		if x := must[api.Perm](t)(Run(g, nil)); !slices.Equal(x, unit(g.Degree)) {
			t.Fatalf("Run(%v, no steps) = %v", g, x)
		}
		if len(g.Gens) == 0 {
			continue
		}
		for _, length := range []int{1, 2, 3, 10, 200, api.MaxSteps - 1, api.MaxSteps} {
			l := steps(r, len(g.Gens), length)
			if x := must[api.Perm](t)(Run(g, l)); !slices.Equal(x, ran(g, l)) {
				t.Fatalf("Run(%v, %v) = %v", g, l, x)
			}
		}
	}
}

// wrongSteps returns steps that are wrong for a list of a length, with their errors.
func wrongSteps(length int) map[api.Step]api.Errno {
	l := map[api.Step]api.Errno{}
	for _, i := range []int{-1, length, length + 1, 1 << 32, math.MaxInt, math.MinInt} {
		l[api.Step{Op: api.StepMul, A: i, B: 0}] = api.ErrRange
		l[api.Step{Op: api.StepMul, A: 0, B: i}] = api.ErrRange
		l[api.Step{Op: api.StepMul, A: i, B: i}] = api.ErrRange
		l[api.Step{Op: api.StepInv, A: i, B: 0}] = api.ErrRange
		for _, op := range []int{0, -1, 3, 256 + 1, 1<<32 + 2, math.MaxInt, math.MinInt} {
			l[api.Step{Op: op, A: i, B: i}] = api.ErrForm
			l[api.Step{Op: op, A: 0, B: 0}] = api.ErrForm
		}
	}
	return l
}

// TestRunErrors tests P10.1: ErrLong comes first, then the error of the first wrong step.
func TestRunErrors(t *testing.T) {
	t.Parallel()
	r := rand.New(rand.NewSource(104))
	for _, g := range []api.Group{three(), five(), group(1), group(64), all(64, 0, 64), neighbours(17, 0, 17)} {
		n := len(g.Gens)
		for _, length := range []int{0, 1, 5, api.MaxSteps - 1, api.MaxSteps} {
			if n == 0 && length > 0 {
				break
			}
			l := steps(r, max(n, 1), length)
			for s, wanted := range wrongSteps(n + length) {
				if length == api.MaxSteps {
					wanted = api.ErrLong
				}
				bad := append(slices.Clone(l), s)
				x, e := Run(g, bad)
				expectNothing(t, "Run", e, wanted, len(x) == 0)
				// What stands behind a wrong step changes nothing, but for the number of steps.
				for _, last := range []api.Step{{Op: 3}, {Op: api.StepInv, A: -1}, {Op: api.StepInv}} {
					if length < api.MaxSteps-1 {
						x, e := Run(g, append(bad, last))
						expectNothing(t, "Run", e, wanted, len(x) == 0)
					}
				}
			}
		}
		for _, s := range []api.Step{{}, {Op: api.StepInv, A: -1}, {Op: api.StepInv}} {
			x, e := Run(g, slices.Repeat([]api.Step{s}, api.MaxSteps+1))
			expectNothing(t, "Run", e, api.ErrLong, len(x) == 0)
		}
	}
	// Without generators there is nothing that a step could use.
	for _, op := range []int{api.StepMul, api.StepInv} {
		x, e := Run(group(3), []api.Step{{Op: op}})
		expectNothing(t, "Run", e, api.ErrRange, len(x) == 0)
	}
}
