package word

import (
	"slices"

	"cayley/api"
)

// Subst replaces letters by words.
func Subst(w api.Word, images []api.Word) (api.Word, api.Errno) {
	if !inRange(w, len(images)) {
		return nil, api.ErrRange
	}
	positive := make([]api.Word, len(images))
	negative := make([]api.Word, len(images))
	for i, v := range images {
		positive[i] = Reduce(v)
		negative[i] = inverse(positive[i])
	}
	var p pile
	for _, x := range w {
		if x > 0 {
			p.push(positive[x-1])
		} else {
			p.push(negative[-x-1])
		}
	}
	if p.letters > api.MaxWord {
		return nil, api.ErrLong
	}
	return slices.Concat(p.pieces...), api.OK
}

// pile is a reduced word of a number of letters, in pieces that are not empty. Images are pushed without being copied: before they cancel, they may have far more letters in all than there is memory for.
type pile struct {
	pieces  []api.Word
	letters int
}

// push multiplies by a reduced word, which the pile keeps a part of, but does not change.
func (p *pile) push(w api.Word) {
	for n := len(p.pieces) - 1; n >= 0 && len(w) > 0; n-- {
		top := p.pieces[n]
		k := cancelled(top, w)
		w = w[k:]
		p.letters -= k
		if k < len(top) {
			p.pieces[n] = top[:len(top)-k]
			break
		}
		p.pieces = p.pieces[:n]
	}
	if len(w) > 0 {
		p.pieces = append(p.pieces, w)
		p.letters += len(w)
	}
}

// Sums returns the sums of the exponents.
func Sums(w api.Word, gens int) ([]int, api.Errno) {
	if e := Check(w, gens); e != api.OK {
		return nil, e
	}
	sums := make([]int, gens)
	for _, x := range w {
		if x > 0 {
			sums[x-1]++
		} else {
			sums[-x-1]--
		}
	}
	return sums, api.OK
}
