package word

import (
	"math"
	"math/rand"
	"slices"
	"strings"
	"testing"

	"cayley/api"
)

// parsed reports a text that is not read as a word.
func parsed(t *testing.T, s string, gens int, want api.Word) {
	t.Helper()
	if got, f := Parse(s, gens); f != (api.Fault{}) || !slices.Equal(got, want) {
		t.Errorf("Parse(%.60q, %d) = %.60v, %v, want %.60v", s, gens, got, f, want)
	}
}

// faulty reports a text that has not the expected fault.
func faulty(t *testing.T, s string, gens int, e api.Errno, at int) {
	t.Helper()
	if got, f := Parse(s, gens); f != (api.Fault{Err: e, At: at}) || got != nil {
		t.Errorf("Parse(%.60q, %d) = %.60v, %v, want error %d at %d", s, gens, got, f, int(e), at)
	}
}

// TestParseExamples tests P2.3 with the chapter's examples.
func TestParseExamples(t *testing.T) {
	parsed(t, "a*b^-1*(a*c)^2", 3, of(1, -2, 1, 3, 1, 3))
	parsed(t, "[a, b]^-1", 2, of(-2, -1, 2, 1))
	faulty(t, "a**b", 2, api.ErrSyntax, 2)
	faulty(t, "c", 2, api.ErrSyntax, 0)
	faulty(t, "a^01", 2, api.ErrSyntax, 2)
	faulty(t, "a^12345", 2, api.ErrSyntax, 2)
	faulty(t, "(a*b", 2, api.ErrSyntax, 4)
	faulty(t, "a b", 2, api.ErrSyntax, 2)
	faulty(t, "a*(b^2000)^3", 2, api.ErrLong, 2)
}

// TestParse tests P2.3: words that are read.
func TestParse(t *testing.T) {
	for _, x := range []struct {
		s    string
		want api.Word
	}{
		{"1", nil}, {"a", of(1)}, {"p", of(16)}, {"a*b*c", of(1, 2, 3)}, {"a*a^-1", of(1, -1)}, {"1*a*1*1", of(1)}, {"(1)", nil}, {"((a))", of(1)}, {"(a*b)*c", of(1, 2, 3)}, {"[1,1]", nil},
		{"a^0", nil}, {"a^1", of(1)}, {"a^2", of(1, 1)}, {"a^-0", nil}, {"a^-3", of(-1, -1, -1)}, {"1^9999", nil}, {"1^-9999", nil}, {"(a*b)^0", nil}, {"(a*b)^-1", of(-2, -1)}, {"(a*b^-1)^-2", of(2, -1, 2, -1)}, {"(a^2)^3", times(of(1), 6)}, {"((a*b)^-1)^-1", of(1, 2)},
		{"a^1000", times(of(1), 1000)}, {"a^4000", times(of(1), 4000)}, {"a^-4000", times(of(-1), 4000)}, {"(a*b)^2000", times(of(1, 2), 2000)},
		{"[a,b]", of(-1, -2, 1, 2)}, {"[a,a]", of(-1, -1, 1, 1)}, {"[a*b,c^-1]", of(-2, -1, 3, 1, 2, -3)}, {"[a,b]^2", times(of(-1, -2, 1, 2), 2)}, {"[a,1]", of(-1, 1)}, {"[1,a]", of(-1, 1)}, {"[a^-1,a]", of(1, -1, -1, 1)},
		{"[[a,b],c]", of(-2, -1, 2, 1, -3, -1, -2, 1, 2, 3)}, {"[a,(b*c)^-1]", of(-1, 2, 3, 1, -3, -2)}, {"([a,b]*[b,a])^1", of(-1, -2, 1, 2, -2, -1, 2, 1)}, {"a^2*[b,c]*(a)^-2", of(1, 1, -2, -3, 2, 3, -1, -1)},
	} {
		parsed(t, x.s, 16, x.want)
	}
}

// TestParseGens tests P2.3: numbers of generators, and the letters that they allow.
func TestParseGens(t *testing.T) {
	for _, n := range []int{0, -1, 17, math.MinInt, math.MaxInt} {
		for _, s := range []string{"", "a", "?", strings.Repeat("a", 20001)} {
			faulty(t, s, n, api.ErrRange, 0)
		}
	}
	const letters = "abcdefghijklmnopqrstuvwxyz"
	for n := 1; n <= 16; n++ {
		for i := range letters {
			if i < n {
				parsed(t, letters[i:i+1], n, of(i+1))
			} else {
				faulty(t, "1*"+letters[i:i+1], n, api.ErrSyntax, 2)
			}
		}
		parsed(t, "1", n, nil)
		faulty(t, "", n, api.ErrSyntax, 0)
	}
}

// TestParseBlanks tests P2.3: where blanks may stand, and where they may not.
func TestParseBlanks(t *testing.T) {
	parsed(t, "a  *  b", 2, of(1, 2))
	parsed(t, "( a * [ b , a ^ -1 ] ^ 2 ) ^ -1 * 1", 2, of(1, -2, -1, 2, 1, -2, -1, 2, -1))
	parsed(t, "a^ -2", 2, of(-1, -1))
	parsed(t, "a ^-2", 2, of(-1, -1))
	faulty(t, "a^- 2", 2, api.ErrSyntax, 3)
	faulty(t, "a^-2 2", 2, api.ErrSyntax, 5)
	faulty(t, "a^1 2*b", 2, api.ErrSyntax, 4)
	faulty(t, "1 1", 2, api.ErrSyntax, 2)
	faulty(t, "a\t*b", 2, api.ErrSyntax, 1)
	faulty(t, "a\n", 2, api.ErrSyntax, 1)
	faulty(t, "a*\u00a0b", 2, api.ErrSyntax, 2)
	// No sign stands before the first one, and none behind the last one.
	faulty(t, " a", 2, api.ErrSyntax, 0)
	faulty(t, " ", 2, api.ErrSyntax, 0)
	faulty(t, "a ", 2, api.ErrSyntax, 2)
	faulty(t, "(a)  ", 2, api.ErrSyntax, 5)
	faulty(t, "a^2 ", 2, api.ErrSyntax, 4)
	faulty(t, "a* ", 2, api.ErrSyntax, 3)
}

// TestParseSyntax tests P2.3: the first byte that cannot stand there, or the length of a text that ends too early.
func TestParseSyntax(t *testing.T) {
	for _, x := range []struct {
		s  string
		at int
	}{
		{"", 0}, {"*a", 0}, {"^2", 0}, {"-a", 0}, {")", 0}, {"]", 0}, {",", 0}, {"0", 0}, {"2", 0}, {"A", 0}, {"c", 0}, {"\x00", 0}, {"`", 0}, {"\u00e4", 0}, {"\xff", 0}, {"{", 0},
		{"a*", 2}, {"a^", 2}, {"a^-", 3}, {"(", 1}, {"[", 1}, {"(a", 2}, {"[a", 2}, {"[a,", 3}, {"[a,b", 4}, {"((a)", 4}, {"(a*", 3}, {"[a*b^2,(a", 9},
		{"aa", 1}, {"a1", 1}, {"1a", 1}, {"11", 1}, {"12", 1}, {"10", 1}, {"a(b)", 1}, {"a[a,b]", 1}, {"(a)(b)", 3}, {"(a)b", 3}, {"[a,b]a", 5}, {"a\x00", 1}, {"a*\x00", 2}, {"a*c", 2}, {"a+b", 1}, {"a/b", 1}, {"a;", 1},
		{"()", 1}, {"[]", 1}, {"[,b]", 1}, {"[a,]", 3}, {"[a]", 2}, {"[a,b,a]", 4}, {"(a,b)", 2}, {"(a]", 2}, {"[a,b)", 4}, {"[a)", 2}, {"a)", 1}, {"a]", 1}, {"a,b", 1}, {"(a))", 3}, {"[a,b]]", 5}, {"[(a,b)]", 3},
		{"a^^2", 2}, {"a^2^3", 3}, {"a^*b", 2}, {"a^b", 2}, {"a^(2)", 2}, {"a^+2", 2}, {"a^--2", 3}, {"a^-b", 3}, {"a^2a", 3}, {"a^2(", 3}, {"a^)", 2}, {"a^2-", 3}, {"a^\x00", 2},
		{"a^00", 2}, {"a^01", 2}, {"a^-01", 3}, {"a^ 07*b", 3}, {"a^0000", 2}, {"a^00000", 2}, {"a^10000", 2}, {"a^-12345", 3}, {"a^99999999999999999999", 2}, {"a^012x", 2}, {"1^12345*?", 2}, {"a^-0000000000000000000001", 3},
	} {
		faulty(t, x.s, 2, api.ErrSyntax, x.at)
	}
}

// TestParseDigits tests P2.3: exponents of 4 and of 5 digits.
func TestParseDigits(t *testing.T) {
	parsed(t, "1^9999*(a^2*b)^1000", 2, times(of(1, 1, 2), 1000))
	parsed(t, "a^-1000", 2, times(of(-1), 1000))
	faulty(t, "a^9999", 2, api.ErrLong, 0)
	faulty(t, "a^10000", 2, api.ErrSyntax, 2)
	faulty(t, "1^10000", 2, api.ErrSyntax, 2)
	faulty(t, "1^-10000", 2, api.ErrSyntax, 3)
}

// TestParseOpen tests P2.3: 50 and 51 open parentheses or brackets.
func TestParseOpen(t *testing.T) {
	open, closed := strings.Repeat("(", 50), strings.Repeat(")", 50)
	parsed(t, open+"a"+closed, 1, of(1))
	parsed(t, open+"a"+closed+"*"+open+"a"+closed, 1, of(1, 1))
	parsed(t, strings.Repeat("(a)*", 1000)+"[1,(a)]", 1, append(times(of(1), 1000), -1, 1))
	parsed(t, strings.Repeat("([", 25)+"1"+strings.Repeat(",1])", 25), 1, nil)
	parsed(t, strings.Repeat("[1,", 50)+"1"+strings.Repeat("]", 50), 1, nil)
	parsed(t, open[:49]+"(a)*(a)"+closed[:49], 1, of(1, 1))
	faulty(t, open+"(", 1, api.ErrType, 50)
	faulty(t, open+"(a)"+closed, 1, api.ErrType, 50)
	faulty(t, open+"[a,a]"+closed, 1, api.ErrType, 50)
	faulty(t, strings.Repeat("[", 51), 1, api.ErrType, 50)
	faulty(t, strings.Repeat("[1,", 50)+" (", 1, api.ErrType, 151)
	faulty(t, open+"a*[", 1, api.ErrType, 52)
	faulty(t, open[:49]+"(a)*((", 1, api.ErrType, 54)
	faulty(t, open+"a(", 1, api.ErrSyntax, 51)
	faulty(t, open+"a)*(a)*((", 1, api.ErrType, 58)
	faulty(t, open, 1, api.ErrSyntax, 50)
	faulty(t, strings.Repeat("(", 20000), 1, api.ErrType, 50)
}

// TestParseText tests P2.3: texts of 20,000 and of 20,001 bytes.
func TestParseText(t *testing.T) {
	ones := strings.Repeat("1*", 9999)
	parsed(t, ones+" a", 1, of(1))
	faulty(t, ones+"  a", 1, api.ErrLong, 20000)
	faulty(t, ones+"  ", 1, api.ErrSyntax, 20000)
	faulty(t, ones+"a?", 1, api.ErrSyntax, 19999)
	parsed(t, "a"+strings.Repeat(" ", 19997)+"*a", 1, of(1, 1))
	faulty(t, "a"+strings.Repeat(" ", 19998)+"*a", 1, api.ErrLong, 20000)
	faulty(t, strings.Repeat("?", 20000), 1, api.ErrSyntax, 0)
	faulty(t, strings.Repeat("?", 20001), 1, api.ErrLong, 20000)
	faulty(t, strings.Repeat("(", 100000), 1, api.ErrLong, 20000)
	parsed(t, strings.Repeat("*[1,1]^-9999", 1700)[1:20000]+"1", 1, nil)
}

// TestParseLong tests P2.3: ErrLong at an item, at a factor, and at a word within parentheses, brackets and the whole text.
func TestParseLong(t *testing.T) {
	// An item, whatever its exponent is.
	parsed(t, "[a^1000,b^1000]", 2, slices.Concat(times(of(-1), 1000), times(of(-2), 1000), times(of(1), 1000), times(of(2), 1000)))
	faulty(t, "[a^1001,b^1000]", 2, api.ErrLong, 0)
	faulty(t, "[a^2000,b]^0", 2, api.ErrLong, 0)
	faulty(t, "b*[a^2000,b]^01", 2, api.ErrLong, 2)
	faulty(t, "b* [a^2000,b]?", 2, api.ErrLong, 3)
	faulty(t, "([a^4000,b^4000])^0", 2, api.ErrLong, 1)
	faulty(t, "[a^2000,b?", 2, api.ErrSyntax, 9)
	// A factor.
	faulty(t, "a^4001", 2, api.ErrLong, 0)
	faulty(t, "b*a^-4001", 2, api.ErrLong, 2)
	faulty(t, "(a*b)^2001", 2, api.ErrLong, 0)
	faulty(t, "(a^4001)^0", 2, api.ErrLong, 1)
	faulty(t, "b*( (a^2000)^3 )^-1", 2, api.ErrLong, 4)
	faulty(t, "[a,b]^1001", 2, api.ErrLong, 0)
	faulty(t, "a^4001?", 2, api.ErrLong, 0)
	faulty(t, "a^4001x", 2, api.ErrLong, 0)
	// A word of the whole text.
	faulty(t, "a^4000*a", 2, api.ErrLong, 7)
	faulty(t, "a^4000*a ?", 2, api.ErrLong, 7)
	faulty(t, "a^4000*a^2", 2, api.ErrLong, 7)
	faulty(t, "a^4000*a^?", 2, api.ErrSyntax, 9)
	faulty(t, "a^4000*b^-1", 2, api.ErrLong, 7)
	parsed(t, "a^4000*a^0*1*(b*b)^0", 2, times(of(1), 4000))
	faulty(t, "a^2000 * b^2000 *  (a)", 2, api.ErrLong, 19)
	// A word from a parenthesis, a bracket or a comma on.
	faulty(t, "(a^4000*a)^0", 2, api.ErrLong, 8)
	parsed(t, "(a^4000)^0*b^4000", 2, times(of(2), 4000))
	faulty(t, "b*(a^4000)", 2, api.ErrLong, 2)
	faulty(t, "b*(a^4000*1*a)", 2, api.ErrLong, 12)
	faulty(t, "b^4000*(b*a?", 2, api.ErrSyntax, 11)
	faulty(t, "b^4000*(b*a)", 2, api.ErrLong, 7)
	faulty(t, "[a^4000*b,1]", 2, api.ErrLong, 8)
	faulty(t, "[1,a^4000*b]", 2, api.ErrLong, 10)
	faulty(t, "[a^4000,b^4000?", 2, api.ErrSyntax, 14)
	faulty(t, "[a^4000,b^4000*b", 2, api.ErrLong, 15)
	faulty(t, "[a^4000,b^4000]", 2, api.ErrLong, 0)
	faulty(t, strings.Repeat("a*", 4000)+"a", 2, api.ErrLong, 8000)
}

// level is what the reference reader knows of a parenthesis, bracket or comma and what stands behind it.
type level struct {
	sign       byte
	left, word api.Word
	first      int
	item       api.Word
}

// The states of the reference reader: what it has read last.
const (
	nothing = iota
	opening
	item
	caret
	minus
	digits
	raised
)

// automaton is the reference reader: it takes one byte after the other, and has a stack of its own instead of methods that call each other.
type automaton struct {
	text         string
	gens         int
	state, digit int
	levels       []level
}

func reference(s string, gens int) (api.Word, api.Fault) {
	a := automaton{text: s, gens: gens, levels: []level{{}}}
	for at := range len(s) + 1 {
		if f := a.next(at); f.Err != api.OK {
			return nil, f
		}
	}
	return a.levels[0].word, api.Fault{}
}

// next takes the byte at an offset, or the end.
func (a *automaton) next(at int) api.Fault {
	wrong := api.Fault{Err: api.ErrSyntax, At: at}
	b, end := byte(0), at == len(a.text)
	if !end {
		b = a.text[at]
	}
	number := !end && strings.IndexByte("0123456789", b) >= 0
	if a.state == digits && !number {
		if f := a.raise(a.text[a.digit:at]); f.Err != api.OK {
			return f
		}
	}
	switch {
	case !end && b == ' ' && a.state != nothing && a.state != minus:
		return api.Fault{}
	case a.state == digits:
		return api.Fault{}
	case a.state == nothing || a.state == opening:
		return a.begin(at, b, end)
	case (a.state == caret || a.state == minus) && number:
		a.state, a.digit = digits, at
	case a.state == caret && !end && b == '-':
		a.state = minus
	case a.state == item && !end && b == '^':
		a.state = caret
	case a.state == item || a.state == raised:
		return a.finish(at, b, end)
	default:
		return wrong
	}
	return api.Fault{}
}

// raise replaces the item by its power.
func (a *automaton) raise(text string) api.Fault {
	l := &a.levels[len(a.levels)-1]
	if len(text) > 4 || len(text) > 1 && text[0] == '0' {
		return api.Fault{Err: api.ErrSyntax, At: a.digit}
	}
	n := 0
	for _, d := range text {
		n = 10*n + int(d-'0')
	}
	if a.text[a.digit-1] == '-' {
		l.item = turned(l.item)
	}
	if n*len(l.item) > 4000 {
		return api.Fault{Err: api.ErrLong, At: l.first}
	}
	l.item = times(l.item, n)
	a.state = raised
	return api.Fault{}
}

// begin takes the first byte of an item.
func (a *automaton) begin(at int, b byte, end bool) api.Fault {
	l := &a.levels[len(a.levels)-1]
	l.first, l.item = at, nil
	letter := strings.IndexByte("abcdefghijklmnop"[:a.gens], b)
	switch {
	case end:
		return api.Fault{Err: api.ErrSyntax, At: at}
	case b == '1':
		a.state = item
	case letter >= 0:
		a.state, l.item = item, of(letter+1)
	case b == '(' || b == '[':
		if len(a.levels) == 51 {
			return api.Fault{Err: api.ErrType, At: at}
		}
		a.state = opening
		a.levels = append(a.levels, level{sign: b})
	default:
		return api.Fault{Err: api.ErrSyntax, At: at}
	}
	return api.Fault{}
}

// finish adds the factor to its word, and takes the sign behind it.
func (a *automaton) finish(at int, b byte, end bool) api.Fault {
	l := &a.levels[len(a.levels)-1]
	l.word = append(l.word, l.item...)
	l.item = nil
	if len(l.word) > 4000 {
		return api.Fault{Err: api.ErrLong, At: l.first}
	}
	a.state = opening
	switch sign := l.sign; {
	case end && sign == 0 && a.text[at-1] != ' ', !end && b == '*':
	case b == ',' && sign == '[':
		*l = level{sign: ',', left: l.word}
	case b == ')' && sign == '(':
		return a.close(l.word)
	case b == ']' && sign == ',':
		return a.close(slices.Concat(turned(l.left), turned(l.word), l.left, l.word))
	default:
		return api.Fault{Err: api.ErrSyntax, At: at}
	}
	return api.Fault{}
}

// close makes an item of what stands in parentheses or brackets.
func (a *automaton) close(w api.Word) api.Fault {
	a.levels = a.levels[:len(a.levels)-1]
	l := &a.levels[len(a.levels)-1]
	if len(w) > 4000 {
		return api.Fault{Err: api.ErrLong, At: l.first}
	}
	a.state, l.item = item, w
	return api.Fault{}
}

// asReference reports a text that Parse does not read as the reference reader does.
func asReference(t *testing.T, s string, gens int) bool {
	t.Helper()
	w, f := Parse(s, gens)
	v, g := reference(s, gens)
	if f != g || !slices.Equal(w, v) || f.Err != api.OK && w != nil {
		t.Fatalf("Parse(%.200q, %d) = %.60v, %v, want %.60v, %v", s, gens, w, f, v, g)
	}
	return f.Err == api.OK
}

// TestParseEvery tests P2.3: Parse against the reference reader, for all texts of up to five of these bytes.
func TestParseEvery(t *testing.T) {
	const bytes = "ab1*^-02()[], "
	for length := range 6 {
		count := 1
		for range length {
			count *= len(bytes)
		}
		for k := range count {
			b := make([]byte, length)
			for i := range b {
				b[i], k = bytes[k%len(bytes)], k/len(bytes)
			}
			asReference(t, string(b), 1)
		}
	}
}

// phrase returns a text that is read, with a nesting of parentheses and brackets that is at most depth.
func phrase(r *rand.Rand, depth int) string {
	blank := func() string { return strings.Repeat(" ", max(0, r.Intn(8)-6)) }
	var l []string
	for range 1 + r.Intn(3) {
		s := string(rune('a' + r.Intn(3)))
		switch k := r.Intn(8); {
		case k == 0:
			s = "1"
		case k < 3 && depth > 0:
			s = "(" + blank() + phrase(r, depth-1) + blank() + ")"
		case k < 5 && depth > 0:
			s = "[" + phrase(r, depth-1) + blank() + "," + blank() + phrase(r, depth-1) + "]"
		}
		exponents := []string{"", "", "", "^2", "^-1", "^0", "^-3", " ^ -0", "^1", "^17", "^40", "^-1000", "^4000"}
		l = append(l, s+exponents[r.Intn(len(exponents))])
	}
	return strings.Join(l, blank()+"*"+blank())
}

// TestParsePhrases tests P2.3: Parse against the reference reader, for texts of the table, and for such with a byte changed, left out or added.
func TestParsePhrases(t *testing.T) {
	r := rand.New(rand.NewSource(12))
	const bytes = "abcd1*^-0239()[],  ?"
	read := 0
	for range 4000 {
		s := phrase(r, r.Intn(4))
		if asReference(t, s, 3) {
			read++
		}
		for range 3 {
			i, b := r.Intn(len(s)), string(bytes[r.Intn(len(bytes))])
			asReference(t, s[:i]+b+s[i+1:], 3)
			asReference(t, s[:i]+s[i+1:], 3)
			asReference(t, s[:i]+b+s[i:], 3)
			asReference(t, s[:i], 3)
		}
	}
	if read < 1000 || read == 4000 {
		t.Errorf("%d of the texts are read", read)
	}
}

// FuzzParse tests P1 and P2.3: Parse ends, and agrees with the reference reader.
func FuzzParse(f *testing.F) {
	for _, s := range []string{"", "a*b^-1*(a*c)^2", "[a, b]^-1", "a*(b^2000)^3", "a^12345", " (a ", strings.Repeat("[(", 26), "\x80*a"} {
		f.Add(s, 16)
		f.Add(s, 2)
		f.Add(s, 0)
	}
	f.Fuzz(func(t *testing.T, s string, gens int) {
		w, fault := Parse(s, gens)
		if fault.Err == api.OK && Check(w, gens) != api.OK {
			t.Fatalf("Parse(%q, %d) = %v", s, gens, w)
		}
		if 1 <= gens && gens <= 16 && len(s) <= 20000 {
			asReference(t, s, gens)
		}
	})
}
