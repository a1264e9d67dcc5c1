package word

import (
	"iter"
	"strconv"

	"cayley/api"
)

// Text writes a word.
func Text(w api.Word) (string, api.Errno) {
	if e := Check(w, api.MaxGens); e != api.OK {
		return "", e
	}
	if len(w) == 0 {
		return "1", api.OK
	}
	var b []byte
	for x, n := range runs(w) {
		if len(b) > 0 {
			b = append(b, '*')
		}
		b = appendRun(b, x, n)
	}
	return string(b), api.OK
}

// runs enumerates the maximal runs of one letter: the letter, and how often it stands there.
func runs(w api.Word) iter.Seq2[int, int] {
	return func(yield func(x, n int) bool) {
		first := 0
		for i, x := range w {
			if i+1 < len(w) && w[i+1] == x {
				continue
			}
			if !yield(x, i+1-first) {
				return
			}
			first = i + 1
		}
	}
}

func appendRun(b []byte, x, n int) []byte {
	if x < 0 {
		x, n = -x, -n
	}
	b = append(b, byte('a'+x-1))
	if n == 1 {
		return b
	}
	return strconv.AppendInt(append(b, '^'), int64(n), 10)
}
