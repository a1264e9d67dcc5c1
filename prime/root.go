package prime

import "cayley/api"

// Root returns the least primitive root.
func Root(p int) (int, api.Errno) {
	if !Is(p) {
		return 0, api.ErrForm
	}
	return root(p), api.OK
}

// root is Root for a modulus. A residue is a root unless it is 1 to the power (p-1)/q for a prime q. The last candidate is not tried: there is a root.
func root(p int) int {
	x := 1
candidates:
	for x < p-1 {
		for q := range factors(p - 1) {
			if pow(x, uint((p-1)/q), p) == 1 {
				x++
				continue candidates
			}
		}
		break
	}
	return x
}

// Log returns a logarithm.
func Log(a, p int) (int, api.Errno) {
	x, e := unit(a, p)
	if e != api.OK {
		return 0, e
	}
	return log(x, p), api.OK
}

// log is Log for a modulus and a residue other than 0. To try all exponents would take too long: those below a width are kept by their powers, and x is divided by the power width until it is one of them. In the last stretch it must be.
func log(x, p int) int {
	times, r := product(p), root(p)
	width := 1
	for width*width < p-1 {
		width++
	}
	small := make(map[int]int, width)
	y := 1
	for k := range width {
		small[y] = k
		y = times(y, r)
	}
	back := pow(y, uint(p-2), p)
	n := 0
	for ; n+width < p-1; n += width {
		if _, found := small[x]; found {
			break
		}
		x = times(x, back)
	}
	return n + small[x]
}

// Sqrt returns the least square root.
func Sqrt(a, p int) (int, api.Errno) {
	x, e := Mod(a, p)
	if e != api.OK || x == 0 {
		return 0, e
	}
	// Squares are the even powers of the root. (Modulo 2 that is 1, its power 0.)
	n := log(x, p)
	if n%2 == 1 {
		return 0, api.ErrNone
	}
	y := pow(root(p), uint(n/2), p)
	return min(y, p-y), api.OK
}

// Zeta returns a residue of a given order.
func Zeta(e, p int) (int, api.Errno) {
	switch {
	case !Is(p):
		return 0, api.ErrForm
	case e < 1:
		return 0, api.ErrRange
	case (p-1)%e != 0:
		return 0, api.ErrNone
	}
	return pow(root(p), uint((p-1)/e), p), api.OK
}
