package matrix

import "cayley/api"

// Perm returns the action on vectors.
func Perm(a api.Matrix) (api.Perm, api.Errno) {
	if e := checkSquare(a); e != api.OK {
		return nil, e
	}
	count := 1
	for range a.Rows {
		count *= a.P
		if count > api.MaxDegree {
			return nil, api.ErrOver
		}
	}
	if det(a) == 0 {
		return nil, api.ErrSingular
	}
	images := make(api.Perm, count)
	for k := range images {
		images[k] = number(apply(vector(k, len(a.Rows), a.P), a), a.P)
	}
	return images, api.OK
}

// vector returns the vector of n entries with the number k.
func vector(k, n, p int) []int {
	v := make([]int, n)
	for i := n - 1; i >= 0; i-- {
		v[i] = k % p
		k /= p
	}
	return v
}

// number returns the number of a vector.
func number(v []int, p int) int {
	k := 0
	for _, x := range v {
		k = k*p + x
	}
	return k
}
