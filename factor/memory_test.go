package factor

import (
	"slices"
	"testing"

	"cayley/api"
)

// numbers returns steps as lists of their numbers.
func numbers(l []api.Step) [][]int {
	var p [][]int
	for _, s := range l {
		p = append(p, []int{s.Op, s.A, s.B})
	}
	return p
}

// lists returns permutations or words as lists.
func lists[L ~[]int](l []L) [][]int {
	var p [][]int
	for _, x := range l {
		p = append(p, x)
	}
	return p
}

func sameLists(a, b [][]int) bool { return slices.EqualFunc(a, b, slices.Equal[[]int]) }

// kept returns lists that share no memory with l.
func kept(l [][]int) [][]int {
	var c [][]int
	for _, x := range l {
		c = append(c, slices.Clone(x))
	}
	return c
}

// roomy returns a list of permutations, with others behind its end.
func roomy(l []api.Perm) []api.Perm {
	var whole []api.Perm
	for _, x := range append(slices.Clone(l), slices.Repeat([]api.Perm{{5, 6, 7}}, 40)...) {
		whole = append(whole, slices.Clone(x))
	}
	return whole[:len(l)]
}

// TestMemory tests R4 and P2: arguments stay as they were, and what is behind their ends, too; what is written into a result changes neither them, nor another list of the result, nor a later result of the same call, which is the same.
func TestMemory(t *testing.T) {
	for _, base := range []api.Group{group(5), five(), all(5, 0, 5), rings(5, 0, 2, 3), group(5, unit(5))} {
		for _, x := range []api.Perm{unit(5), cycle(5, 0, 5), cycle(5, 0, 2)} {
			g, w, l := group(5, roomy(base.Gens)...), api.Word{1, -1, 1}, []api.Step{{Op: api.StepInv, A: 0}, {Op: api.StepMul, A: 1, B: 0}}
			arguments := func() [][]int {
				return slices.Concat(lists(g.Gens[:cap(g.Gens)]), [][]int{x, w}, numbers(l))
			}
			old := kept(arguments())
			for name, f := range map[string]func() [][]int{
				"Eval":       func() [][]int { a, e := Eval(g, w); return [][]int{a, {int(e)}} },
				"Eval of 1":  func() [][]int { a, e := Eval(g, api.Word{1}); return [][]int{a, {int(e)}} },
				"Eval of -1": func() [][]int { a, e := Eval(g, api.Word{-1}); return [][]int{a, {int(e)}} },
				"Run":        func() [][]int { a, e := Run(g, l); return [][]int{a, {int(e)}} },
				"Words":      func() [][]int { l, e := Words(g); return append(lists(l), []int{int(e)}) },
				"Growth":     func() [][]int { l, e := Growth(g); return [][]int{l, {int(e)}} },
				"Least":      func() [][]int { v, e := Least(g, x); return [][]int{v, {int(e)}} },
				"Program":    func() [][]int { l, e := Program(g, x); return append(numbers(l), []int{int(e)}) },
			} {
				first := f()
				wanted := kept(first)
				for i, l := range first {
					l = l[:cap(l)]
					for k := range l {
						l[k] = -7
					}
					if !sameLists(first[i+1:], wanted[i+1:]) {
						t.Fatalf("%s: a list of the result shares memory with others", name)
					}
				}
				if !sameLists(arguments(), old) {
					t.Fatalf("%s changes its arguments, or shares memory with them", name)
				}
				if again := f(); !sameLists(again, wanted) {
					t.Fatalf("%s = %v, before %v", name, again, wanted)
				}
			}
		}
	}
}

// TestStepMemory tests R4 for the list of steps that Program returns.
func TestStepMemory(t *testing.T) {
	first := must[[]api.Step](t)(Program(three(), api.Perm{1, 0, 2}))
	wanted := slices.Clone(first)
	first = first[:cap(first)]
	clear(first)
	if again := must[[]api.Step](t)(Program(three(), api.Perm{1, 0, 2})); !slices.Equal(again, wanted) {
		t.Errorf("Program = %v, before %v", again, wanted)
	}
}
