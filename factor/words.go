package factor

import (
	"maps"
	"slices"

	"cayley/api"
	"cayley/orbit"
)

// Words returns the least words of all elements, in the order of the elements.
func Words(g api.Group) ([]api.Word, api.Errno) {
	if e := orbit.Check(g); e != api.OK {
		return nil, e
	}
	s, e := explore(g)
	if e != api.OK {
		return nil, e
	}
	var l []api.Word
	for _, key := range slices.Sorted(maps.Keys(s.index)) {
		l = append(l, s.word(s.index[key]))
	}
	return l, api.OK
}

// Least returns the least word of an element.
func Least(g api.Group, x api.Perm) (api.Word, api.Errno) {
	if e := check(g, x); e != api.OK {
		return nil, e
	}
	s, e := explore(g)
	if e != api.OK {
		return nil, e
	}
	i, is := s.index[key(x)]
	if !is {
		return nil, api.ErrNone
	}
	return s.word(i), api.OK
}

// Growth returns the numbers of elements by length.
func Growth(g api.Group) ([]int, api.Errno) {
	if e := orbit.Check(g); e != api.OK {
		return nil, e
	}
	s, e := explore(g)
	if e != api.OK {
		return nil, e
	}
	// What is found last has the greatest length.
	counts := make([]int, s.found[len(s.found)-1].length+1)
	for _, x := range s.found {
		counts[x.length]++
	}
	return counts, api.OK
}

// search is a breadth-first search for the elements of a group. It finds them in the order of their least words, because these without their last letters are least words, too.
type search struct {
	found []element
	index map[string]int // of what was found, by keys
}

// element is an element of a group. Its least word has a length; if that is not 0, it is the least word of an element with an index, and then a last letter.
type element struct {
	key                  string
	length, before, last int
}

// explore searches for all elements of a group that has been checked.
func explore(g api.Group) (*search, api.Errno) {
	s := &search{index: map[string]int{}}
	s.add(element{key: key(one(g.Degree))})
	letters := lettersOf(g)
	for i := 0; i < len(s.found); i++ {
		for _, l := range letters {
			x := s.found[i]
			s.add(element{times(x.key, l.value), x.length + 1, i, l.number})
			if len(s.found) > api.MaxList {
				return nil, api.ErrOver
			}
		}
	}
	return s, api.OK
}

// letter is a letter with its value.
type letter struct {
	number int
	value  api.Perm
}

// lettersOf returns all letters of a group, in their order.
func lettersOf(g api.Group) []letter {
	var l []letter
	for i := range g.Gens {
		for _, number := range []int{i + 1, -i - 1} {
			x, _ := value(g, number)
			l = append(l, letter{number, x})
		}
	}
	return l
}

// add takes up an element if it is a new one.
func (s *search) add(x element) {
	if _, is := s.index[x.key]; !is {
		s.index[x.key] = len(s.found)
		s.found = append(s.found, x)
	}
}

// word returns the least word of the element with an index.
func (s *search) word(i int) api.Word {
	w := make(api.Word, s.found[i].length)
	for k := range slices.Backward(w) {
		w[k] = s.found[i].last
		i = s.found[i].before
	}
	return w
}

// key returns the images of a permutation as a string. Keys are ordered as their permutations are.
func key(x api.Perm) string {
	b := make([]byte, len(x))
	for i, p := range x {
		b[i] = byte(p)
	}
	return string(b)
}

// times returns the key of x*y for that of x.
func times(x string, y api.Perm) string {
	b := []byte(x)
	for i, p := range b {
		b[i] = byte(y[p])
	}
	return string(b)
}
