package perm

import (
	"strconv"

	"cayley/api"
)

// Text writes the cycles of a permutation.
func Text(a api.Perm) (string, api.Errno) {
	if e := check(a); e != api.OK {
		return "", e
	}
	var b []byte
	for c := range cycles(a) {
		if len(c) > 1 {
			b = appendCycle(b, c)
		}
	}
	if len(b) == 0 {
		return "()", api.OK
	}
	return string(b), api.OK
}

func appendCycle(b []byte, c []int) []byte {
	for i, x := range c {
		if i == 0 {
			b = append(b, '(')
		} else {
			b = append(b, ' ')
		}
		b = strconv.AppendInt(b, int64(x), 10)
	}
	return append(b, ')')
}

// Parse reads a permutation of degree n.
func Parse(s string, n int) (api.Perm, api.Fault) {
	if n < 1 || n > api.MaxDegree {
		return nil, fault(api.ErrRange, 0)
	}
	if len(s) > api.MaxText {
		return nil, fault(api.ErrLong, api.MaxText)
	}
	r := reader{text: s, images: one(n)}
	for r.at < len(s) {
		switch s[r.at] {
		case ' ':
			r.at++
		case '(':
			r.at++
			if f := r.cycle(); f.Err != api.OK {
				return nil, f
			}
		default:
			return nil, fault(api.ErrSyntax, r.at)
		}
	}
	return r.images, api.Fault{}
}

// reader reads cycles from a text: it stands at a byte, knows the points that occurred, and collects images.
type reader struct {
	text   string
	at     int
	used   [api.MaxDegree]bool
	images api.Perm
}

// cycle reads a cycle behind its opening parenthesis, up to and with the closing one. A blank between two points need not be looked for: point takes all digits, so that two points never touch.
func (r *reader) cycle() api.Fault {
	var points []int
	for r.at < len(r.text) {
		switch b := r.text[r.at]; {
		case b == ' ':
			r.at++
		case b == ')':
			r.at++
			r.join(points)
			return api.Fault{}
		case isDigit(b):
			x, f := r.point()
			if f.Err != api.OK {
				return f
			}
			points = append(points, x)
		default:
			return fault(api.ErrSyntax, r.at)
		}
	}
	return fault(api.ErrSyntax, len(r.text))
}

// point reads the digits of a point. Its value stops growing at the degree: more digits would only make it greater, and could overflow.
func (r *reader) point() (int, api.Fault) {
	first, x := r.at, 0
	for ; r.at < len(r.text) && isDigit(r.text[r.at]); r.at++ {
		if x < len(r.images) {
			x = 10*x + int(r.text[r.at]-'0')
		}
	}
	switch {
	case r.text[first] == '0' && r.at > first+1:
		return 0, fault(api.ErrSyntax, first)
	case x >= len(r.images):
		return 0, fault(api.ErrRange, first)
	case r.used[x]:
		return 0, fault(api.ErrDouble, first)
	}
	r.used[x] = true
	return x, api.Fault{}
}

// join maps each point to the next one. No other cycle has these points, so that the order of the cycles does not matter.
func (r *reader) join(points []int) {
	for i, x := range points {
		r.images[x] = points[(i+1)%len(points)]
	}
}

func isDigit(b byte) bool { return '0' <= b && b <= '9' }

func fault(e api.Errno, at int) api.Fault { return api.Fault{Err: e, At: at} }
