package factor

import (
	"slices"

	"cayley/api"
	"cayley/perm"
)

// maxProgram is the greatest degree of a group whose elements are written as programs.
const maxProgram = 16

// Program returns a program whose value is an element.
func Program(g api.Group, x api.Perm) ([]api.Step, api.Errno) {
	if e := check(g, x); e != api.OK {
		return nil, e
	}
	if g.Degree > maxProgram {
		return nil, api.ErrOver
	}
	if slices.Equal(x, one(g.Degree)) {
		return nil, api.OK
	}
	if len(g.Gens) == 0 {
		return nil, api.ErrNone
	}
	c := fill(g)
	factors, is := c.sift(0, x)
	if !is {
		return nil, api.ErrNone
	}
	product := c.one
	for _, k := range factors {
		product = c.mul(k, product)
	}
	return c.steps, api.OK
}

// program is a list of elements: at first of generators, then of what steps append. It hands out the indices of what it appends.
type program struct {
	list  []api.Perm
	steps []api.Step
}

func (p *program) mul(a, b int) int { return p.do(api.Step{Op: api.StepMul, A: a, B: b}) }

func (p *program) inv(a int) int { return p.do(api.Step{Op: api.StepInv, A: a}) }

func (p *program) do(s api.Step) int {
	x, _ := follow(p.list, s)
	p.list = append(p.list, x)
	p.steps = append(p.steps, s)
	return len(p.list) - 1
}

// levels are a chain that fills a list. The elements that fix the points before a level are the group of this level: gens generate it, orbit is the orbit of the level's point under it, and at has an entry for each point of the orbit. Elements are given by their indices in the list.
//
// Programs are short enough: behind the first level, each generator at least doubles the group of its level, so there are at most 249 of them, of 2 steps each. There are at most 120 entries of other elements than the identity, of 2 steps each. The identity takes 2 steps, and the product of entries at most 15.
type levels struct {
	program
	degree int
	one    int
	gens   [maxProgram][]int
	orbit  [maxProgram][]int
	at     [maxProgram][maxProgram]*entry
}

// entry is an element that maps the point of its level to another point, and its inverse.
type entry struct{ to, back int }

// fill returns the levels of a group that has generators.
func fill(g api.Group) *levels {
	c := &levels{program: program{list: slices.Clone(g.Gens)}, degree: g.Degree}
	c.one = c.mul(0, c.inv(0))
	for i := range g.Degree {
		c.orbit[i] = []int{i}
		c.at[i][i] = &entry{c.one, c.one}
	}
	for s := range g.Gens {
		c.extend(0, s)
	}
	return c
}

// sift returns the elements of entries, from a level on, whose product, the last one first, is x, if x is in the group of the level.
func (c *levels) sift(level int, x api.Perm) (factors []int, is bool) {
	for i := level; i < c.degree; i++ {
		if x[i] == i {
			continue
		}
		r := c.at[i][x[i]]
		if r == nil {
			return nil, false
		}
		factors = append(factors, r.to)
		x, _ = perm.Mul(x, c.list[r.back])
	}
	return factors, true
}

// extend adds a generator to a level. The points that the orbit has already need no more than this generator.
func (c *levels) extend(level, s int) {
	known := len(c.orbit[level])
	c.gens[level] = append(c.gens[level], s)
	for k := 0; k < len(c.orbit[level]); k++ {
		gens := c.gens[level]
		if k < known {
			gens = gens[len(gens)-1:]
		}
		for _, s := range gens {
			c.visit(level, c.at[level][c.orbit[level][k]].to, s)
		}
	}
}

// visit takes care of the product of an entry of a level and a generator: it becomes an entry, or else its quotient by the entry for the same point is in the group of the next level, which may have to be extended.
func (c *levels) visit(level, r, s int) {
	x, _ := perm.Mul(c.list[r], c.list[s])
	p := x[level]
	old := c.at[level][p]
	if old == nil {
		product := c.mul(r, s)
		c.at[level][p] = &entry{product, c.inv(product)}
		c.orbit[level] = append(c.orbit[level], p)
		return
	}
	x, _ = perm.Mul(x, c.list[old.back])
	if _, is := c.sift(level+1, x); !is {
		c.extend(level+1, c.mul(c.mul(r, s), old.back))
	}
}
