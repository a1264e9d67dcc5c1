package prime

import "cayley/api"

// Mod returns a residue.
func Mod(a, p int) (int, api.Errno) {
	if !Is(p) {
		return 0, api.ErrForm
	}
	return (a%p + p) % p, api.OK
}

// unit returns a residue that is not 0.
func unit(a, p int) (int, api.Errno) {
	x, e := Mod(a, p)
	if e == api.OK && x == 0 {
		e = api.ErrZero
	}
	return x, e
}

// Inv returns an inverse.
func Inv(a, p int) (int, api.Errno) {
	x, e := unit(a, p)
	if e != api.OK {
		return 0, e
	}
	return pow(x, uint(p-2), p), api.OK
}

// Pow returns a power.
func Pow(a, n, p int) (int, api.Errno) {
	x, e := Mod(a, p)
	if e == api.OK && n < 0 {
		x, e = Inv(x, p)
		n = -n // The least int stays as it is, but as a uint that is its absolute value.
	}
	if e != api.OK {
		return 0, e
	}
	return pow(x, uint(n), p), api.OK
}

// Order returns an order.
func Order(a, p int) (int, api.Errno) {
	x, e := unit(a, p)
	if e != api.OK {
		return 0, e
	}
	n := p - 1
	for q := range factors(p - 1) {
		for n%q == 0 && pow(x, uint(n/q), p) == 1 {
			n /= q
		}
	}
	return n, api.OK
}

// Symbol says whether a residue is a square.
func Symbol(a, p int) (int, api.Errno) {
	x, e := Mod(a, p)
	if e != api.OK || x == 0 {
		return 0, e
	}
	if pow(x, uint(p-1)/2, p) != 1 {
		return -1, api.OK
	}
	return 1, api.OK
}

// product returns the multiplication of residues modulo p. (A product has up to 40 bits, more than the int of some machines.)
func product(p int) func(x, y int) int {
	return func(x, y int) int { return int(int64(x) * int64(y) % int64(p)) }
}

// pow is Pow for a residue, a modulus, and an exponent that is not negative.
func pow(x int, n uint, p int) int { return power(1, x, n, product(p)) }

// power returns the product of n factors x, or one if n is 0, by squaring x for each binary digit of n.
func power[T any](one, x T, n uint, times func(x, y T) T) T {
	result := one
	for n > 0 {
		if n%2 == 1 {
			result = times(result, x)
		}
		x = times(x, x)
		n /= 2
	}
	return result
}
