package chain

import "cayley/api"

// element is a permutation of a degree up to 64: the points from the degree on stay where they are. So permutations are equal if their arrays are.
type element [api.MaxDegree]uint8

func identity() (x element) {
	for i := range x {
		x[i] = uint8(i)
	}
	return x
}

// elements returns permutations that have been checked as elements.
func elements(l []api.Perm) []element {
	var r []element
	for _, a := range l {
		r = append(r, elementOf(a))
	}
	return r
}

func elementOf(a api.Perm) element {
	x := identity()
	for i, p := range a {
		x[i] = uint8(p)
	}
	return x
}

// perm returns an element as a permutation of the degree n.
func (x *element) perm(n int) api.Perm {
	a := make(api.Perm, n)
	for i := range a {
		a[i] = int(x[i])
	}
	return a
}

// times returns x*y. Every point is less than MaxDegree: the remainder changes nothing, but tells the compiler that no index is out of range.
func (x *element) times(y *element) (z element) {
	for i, p := range x {
		z[i] = y[p%api.MaxDegree]
	}
	return z
}

func (x *element) inverse() (y element) {
	for i, p := range x {
		y[p%api.MaxDegree] = uint8(i)
	}
	return y
}
