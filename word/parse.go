package word

import (
	"slices"
	"strconv"
	"strings"

	"cayley/api"
)

// The greatest number of parentheses and brackets that are open at a time, and of digits of an exponent.
const (
	maxOpen   = 50
	maxDigits = 4
)

// Parse reads a word.
func Parse(s string, gens int) (api.Word, api.Fault) {
	if gens < 1 || gens > api.MaxGens {
		return nil, api.Fault{Err: api.ErrRange}
	}
	if len(s) > api.MaxText {
		return nil, api.Fault{Err: api.ErrLong, At: api.MaxText}
	}
	r := reader{text: s, gens: gens}
	return caught(r.whole)
}

// stop is what the methods of a reader panic with: the fault that ends the reading.
type stop api.Fault

// caught returns what read returns, or the fault that it stops with.
func caught(read func() api.Word) (_ api.Word, f api.Fault) {
	defer func() {
		if s, ok := recover().(stop); ok {
			f = api.Fault(s)
		}
	}()
	return read(), api.Fault{}
}

// reader reads a text from the left: it stands at a byte, and knows how many parentheses and brackets are open there.
type reader struct {
	text string
	gens int
	at   int
	open int
}

// whole reads the whole text. Blanks stand between two signs only: one before the first sign cannot stand there, and behind one at the end a sign is missing.
func (r *reader) whole() api.Word {
	if strings.HasPrefix(r.text, " ") {
		panic(stop{api.ErrSyntax, 0})
	}
	w := r.word()
	if r.at < len(r.text) || strings.HasSuffix(r.text, " ") {
		panic(stop{api.ErrSyntax, r.at})
	}
	return w
}

// word reads factors, up to and with the blanks behind the last one.
func (r *reader) word() api.Word {
	var w api.Word
	for {
		r.skip()
		first := r.at
		w = append(w, r.factor()...)
		limit(len(w), first)
		if !r.take('*') {
			return w
		}
	}
}

// factor reads an item and its exponent. The item is measured before the exponent is read, and the power before it is written down.
func (r *reader) factor() api.Word {
	first := r.at
	w := r.item()
	limit(len(w), first)
	if !r.take('^') {
		return w
	}
	n := r.exponent()
	if n < 0 {
		w, n = inverse(w), -n
	}
	limit(n*len(w), first)
	return slices.Repeat(w, n)
}

func (r *reader) item() api.Word {
	switch {
	case r.take('1'):
		return nil
	case r.take('('):
		return r.group()
	case r.take('['):
		return r.commutator()
	}
	return api.Word{r.letter()}
}

// group reads a word in parentheses, behind the opening one.
func (r *reader) group() api.Word {
	r.enter()
	w := r.word()
	r.leave(')')
	return w
}

// commutator reads two words in brackets, behind the opening one.
func (r *reader) commutator() api.Word {
	r.enter()
	x := r.word()
	r.must(',')
	y := r.word()
	r.leave(']')
	return slices.Concat(inverse(x), inverse(y), x, y)
}

// enter counts the parenthesis or bracket that has just been read.
func (r *reader) enter() {
	if r.open == maxOpen {
		panic(stop{api.ErrType, r.at - 1})
	}
	r.open++
}

func (r *reader) leave(sign byte) {
	r.must(sign)
	r.open--
}

func (r *reader) letter() int {
	if r.at < len(r.text) {
		if b := r.text[r.at]; 'a' <= b && b < 'a'+byte(r.gens) {
			r.at++
			return int(b-'a') + 1
		}
	}
	panic(stop{api.ErrSyntax, r.at})
}

// exponent reads a number. The blanks before it are skipped while a minus is looked for; behind that none may stand.
func (r *reader) exponent() int {
	negative := r.take('-')
	first := r.at
	for r.at < len(r.text) && '0' <= r.text[r.at] && r.text[r.at] <= '9' {
		r.at++
	}
	digits := r.text[first:r.at]
	if len(digits) > maxDigits || len(digits) > 1 && digits[0] == '0' {
		panic(stop{api.ErrSyntax, first})
	}
	n, err := strconv.Atoi(digits)
	if err != nil { // there is no digit
		panic(stop{api.ErrSyntax, first})
	}
	if negative {
		return -n
	}
	return n
}

// take skips blanks, and reads a sign if it stands behind them.
func (r *reader) take(sign byte) bool {
	r.skip()
	if r.at == len(r.text) || r.text[r.at] != sign {
		return false
	}
	r.at++
	return true
}

// must reads a sign behind blanks; nothing else can stand there.
func (r *reader) must(sign byte) {
	if !r.take(sign) {
		panic(stop{api.ErrSyntax, r.at})
	}
}

func (r *reader) skip() {
	for r.at < len(r.text) && r.text[r.at] == ' ' {
		r.at++
	}
}

// limit stops at the first byte of a factor if a word has too many letters.
func limit(letters, first int) {
	if letters > api.MaxWord {
		panic(stop{api.ErrLong, first})
	}
}
