package perm

import "cayley/api"

// The greatest number of digits of an order, and the greatest factor or divisor.
const (
	maxDigits = 200
	maxFactor = 1_000_000_000
)

// Times multiplies an order by n.
func Times(a api.Num, n int) (api.Num, api.Errno) {
	if e := checkNum(a, n); e != api.OK {
		return "", e
	}
	// The carry stays below n, and a digit times n plus the carry below 10*n.
	var b [maxDigits]byte
	at, carry := maxDigits, uint64(0)
	for i := len(a) - 1; i >= 0 || carry > 0; i-- {
		if i >= 0 {
			carry += uint64(a[i]-'0') * uint64(n)
		}
		if at == 0 {
			return "", api.ErrOver
		}
		at--
		b[at] = byte('0' + carry%10)
		carry /= 10
	}
	return api.Num(b[at:]), api.OK
}

// Ratio divides an order by n.
func Ratio(a api.Num, n int) (api.Num, api.Errno) {
	switch e := checkNum(a, n); {
	case e == api.ErrRange && n == 0:
		return "", api.ErrZero
	case e != api.OK:
		return "", e
	}
	var b []byte
	rest := uint64(0)
	for i := 0; i < len(a); i++ {
		rest = 10*rest + uint64(a[i]-'0')
		digit := byte(rest / uint64(n))
		rest %= uint64(n)
		if len(b) > 0 || digit > 0 {
			b = append(b, '0'+digit)
		}
	}
	if rest > 0 {
		return "", api.ErrNone
	}
	return api.Num(b), api.OK
}

func checkNum(a api.Num, n int) api.Errno {
	if !isOrder(a) {
		return api.ErrForm
	}
	if n < 1 || n > maxFactor {
		return api.ErrRange
	}
	return api.OK
}

// isOrder says whether a is an order: a leading zero is ruled out, and with it the number 0.
func isOrder(a api.Num) bool {
	if len(a) < 1 || len(a) > maxDigits || a[0] == '0' {
		return false
	}
	for i := 0; i < len(a); i++ {
		if !isDigit(a[i]) {
			return false
		}
	}
	return true
}
