package chain

import (
	"slices"

	"cayley/api"
)

// group is a group with a closed table. The elements gens[i] fix the points before i and generate the group of the level i, which is the stabiliser of these points; orbits[i] is the orbit of i under it, in the order in which it was found.
type group struct {
	*table
	gens   [api.MaxDegree][]element
	orbits [api.MaxDegree][]int
}

// generate returns the group of the degree n that elements generate.
func generate(n int, l []element) *group {
	g := &group{table: newTable(n)}
	for i := range n {
		g.orbits[i] = []int{i}
	}
	type waiting struct {
		level int
		x     element
	}
	var queue []waiting
	wait := func(level int, x element) { queue = append(queue, waiting{level, x}) }
	// Who came last is served first: that is one of the greatest level, so that the groups of the levels behind it are complete whenever a level grows, and sifting tells what is in them.
	drain := func() {
		for len(queue) > 0 {
			last := queue[len(queue)-1]
			queue = queue[:len(queue)-1]
			g.extend(last.level, last.x, wait)
		}
	}
	for _, x := range l {
		wait(0, x)
		drain()
	}
	return g
}

// extend adds an element to the group of a level, and calls wait with the Schreier generators of the stabiliser of the level's point that this brings: those are to be added to the group of the next level.
func (g *group) extend(level int, x element, wait func(level int, x element)) {
	if g.has(x, level) {
		return
	}
	known := len(g.orbits[level])
	g.gens[level] = append(g.gens[level], x)
	for k := 0; k < len(g.orbits[level]); k++ {
		gens := g.gens[level]
		if k < known {
			gens = gens[len(gens)-1:]
		}
		for _, s := range gens {
			y := g.at[level][g.orbits[level][k]].to.times(&s)
			p := int(y[level])
			switch r := g.at[level][p]; {
			case r == nil:
				g.enter(level, y)
				g.orbits[level] = append(g.orbits[level], p)
			case y != r.to:
				wait(level+1, y.times(&r.back))
			}
		}
	}
}

// least returns the least of the products h*x of all elements h of the group of a level and x. Each level in turn can give its point the least image that is possible without changing the images of the points before it.
func (g *group) least(level int, x element) element {
	for i := level; i < g.degree; i++ {
		best := i
		for _, p := range g.orbits[i] {
			if x[p] < x[best] {
				best = p
			}
		}
		if best != i {
			x = g.at[i][best].to.times(&x)
		}
	}
	return x
}

// chain returns the chain of the group.
func (g *group) chain() api.Chain {
	c := api.Chain{Degree: g.degree}
	for i := range g.degree {
		orbit := slices.Sorted(slices.Values(g.orbits[i]))
		var reps []api.Perm
		for _, p := range orbit {
			r := g.least(i+1, g.at[i][p].to)
			reps = append(reps, r.perm(g.degree))
		}
		c.Orbits = append(c.Orbits, orbit)
		c.Reps = append(c.Reps, reps)
	}
	return c
}
