package perm

import (
	"math"
	"regexp"
	"slices"
	"strconv"
	"strings"
	"testing"

	"cayley/api"
)

// TestText tests P1.3: Text.
func TestText(t *testing.T) {
	for _, x := range []struct {
		p    api.Perm
		want string
	}{
		{exampleA(), "(0 1 2)(3 4)"}, {exampleB(), "(3 4)"}, {one(1), "()"}, {one(64), "()"},
		{api.Perm{1, 0}, "(0 1)"}, {api.Perm{2, 0, 1}, "(0 2 1)"}, {api.Perm{0, 3, 2, 1}, "(1 3)"}, {api.Perm{3, 2, 1, 0}, "(0 3)(1 2)"},
		{rotations(9, 2, 1), "(0 1 2 3 4 5 6 7 8)(9 10)"},
	} {
		if got := must[string](t)(Text(x.p)); got != x.want {
			t.Errorf("Text(%v) = %q, want %q", x.p, got, x.want)
		}
	}
}

// TestParse tests P1.3: texts that Parse reads.
func TestParse(t *testing.T) {
	for _, x := range []struct {
		s    string
		want api.Perm
	}{
		{" (3 4) ( 1 2 0)() ", exampleA()}, {"(3 4)(1 2 0)()", exampleA()}, {"  (   3   4   )   (1   2 0)  (  )", exampleA()},
		{"", one(5)}, {" ", one(5)}, {"()", one(5)}, {"( )()", one(5)}, {"(4)", one(5)}, {"(0)(1) (2)( 3 )( 4)", one(5)}, {"(1)(0 2)", api.Perm{2, 1, 0, 3, 4}},
		{"(0 1 2 3 4)", api.Perm{1, 2, 3, 4, 0}}, {"(4 3 2 1 0)", api.Perm{4, 0, 1, 2, 3}}, {"(1 0)", api.Perm{1, 0, 2, 3, 4}},
		{"(63 10)", func() api.Perm { p := one(64); p[10], p[63] = 63, 10; return p }()},
		{"(0)", one(1)}, {strings.Repeat(" ", 20000), one(1)}, {strings.Repeat("()", 10000), one(2)},
	} {
		p, f := Parse(x.s, len(x.want))
		if f != (api.Fault{}) || !slices.Equal(p, x.want) {
			t.Errorf("Parse(%q, %d) = %v, %v, want %v", x.s, len(x.want), p, f, x.want)
		}
	}
}

// TestParseFaults tests P1.3: the faults of Parse, and which comes first.
func TestParseFaults(t *testing.T) {
	many := strings.Repeat("9", 19000)
	for _, x := range []struct {
		s  string
		n  int
		e  api.Errno
		at int
	}{
		{"(0 1", 5, api.ErrSyntax, 4}, {"(0 5)", 5, api.ErrRange, 3}, {"(0 1)(1 2)", 5, api.ErrDouble, 6}, {"(01 2)", 5, api.ErrSyntax, 1}, {"0", 5, api.ErrSyntax, 0},
		{"", 0, api.ErrRange, 0}, {"()", -1, api.ErrRange, 0}, {"()", 65, api.ErrRange, 0}, {"()", math.MinInt, api.ErrRange, 0}, {"()", math.MaxInt, api.ErrRange, 0},
		{"x", 0, api.ErrRange, 0}, {strings.Repeat(" ", 20001), 0, api.ErrRange, 0},
		{strings.Repeat(" ", 20001), 5, api.ErrLong, 20000}, {strings.Repeat("x", 20001), 5, api.ErrLong, 20000}, {strings.Repeat("x", 20000), 5, api.ErrSyntax, 0}, {strings.Repeat("(", 50000), 5, api.ErrLong, 20000},
		{"(", 5, api.ErrSyntax, 1}, {"(  ", 5, api.ErrSyntax, 3}, {"(0 1 ", 5, api.ErrSyntax, 5}, {"() (", 5, api.ErrSyntax, 4}, {strings.Repeat(" ", 19999) + "(", 5, api.ErrSyntax, 20000},
		{")", 5, api.ErrSyntax, 0}, {"())", 5, api.ErrSyntax, 2}, {"((0 1))", 5, api.ErrSyntax, 1}, {"(0(1 2))", 5, api.ErrSyntax, 2}, {"()0", 5, api.ErrSyntax, 2}, {" 0 1 2", 5, api.ErrSyntax, 1},
		{"(0,1)", 5, api.ErrSyntax, 2}, {"(0\t1)", 5, api.ErrSyntax, 2}, {"(0 1)\n", 5, api.ErrSyntax, 5}, {"(-1)", 5, api.ErrSyntax, 1}, {"(+1)", 5, api.ErrSyntax, 1}, {"(0 1)\x00", 5, api.ErrSyntax, 5},
		{"(\u0661)", 5, api.ErrSyntax, 1}, {"(0\u00a01)", 5, api.ErrSyntax, 2}, {"(0 1/)", 5, api.ErrSyntax, 4}, {"(0 1:)", 5, api.ErrSyntax, 4}, {"[0 1]", 5, api.ErrSyntax, 0},
		{"(00)", 5, api.ErrSyntax, 1}, {"(0 00)", 5, api.ErrSyntax, 3}, {"(09)", 5, api.ErrSyntax, 1}, {"(01", 5, api.ErrSyntax, 1}, {"(1 01)", 5, api.ErrSyntax, 3}, {"(0" + many + ")", 5, api.ErrSyntax, 1},
		{"(5)", 5, api.ErrRange, 1}, {"(0 64)", 64, api.ErrRange, 3}, {"(1)", 1, api.ErrRange, 1}, {"(10)", 5, api.ErrRange, 1}, {"(4 40)", 5, api.ErrRange, 3}, {"(5", 5, api.ErrRange, 1}, {"(5x)", 5, api.ErrRange, 1}, {"(5)(0 0)", 5, api.ErrRange, 1}, {"(9 9)", 5, api.ErrRange, 1},
		{"(" + many + ")", 64, api.ErrRange, 1}, {"(18446744073709551616)", 5, api.ErrRange, 1}, {"(18446744073709551617 1)", 64, api.ErrRange, 1}, {"(4294967296)", 5, api.ErrRange, 1},
		{"(0 0)", 5, api.ErrDouble, 3}, {"(0)(0)", 5, api.ErrDouble, 4}, {"(0 1 2 0)", 5, api.ErrDouble, 7}, {"(3)(1 3", 5, api.ErrDouble, 6}, {"(0 1)(1x", 5, api.ErrDouble, 6}, {"(0 1)(2 1 5)", 5, api.ErrDouble, 8}, {"(10 10)", 64, api.ErrDouble, 4},
	} {
		p, f := Parse(x.s, x.n)
		if want := (api.Fault{Err: x.e, At: x.at}); f != want || p != nil {
			t.Errorf("Parse(%.40q, %d) = %v, %v, want %v", x.s, x.n, p, f, want)
		}
	}
}

// pieces are the pieces of a text, as the reference reader sees them; a number is a piece that may be a point.
var (
	pieces = regexp.MustCompile(`(?s)[0-9]+|.`)
	number = regexp.MustCompile(`^(0|[1-9][0-9]*)$`)
)

// reference reads a permutation piece by piece; it multiplies transpositions, and has the shape of the document's sentences rather than that of Parse. Texts are short and ASCII.
func reference(s string, n int) (api.Perm, api.Fault) {
	p, open, occurred := one(n), false, map[int]bool{}
	var cycle []int
	for _, at := range pieces.FindAllStringIndex(s, -1) {
		piece := s[at[0]:at[1]]
		x, err := strconv.Atoi(piece)
		switch {
		case piece == " ":
		case piece == "(" && !open:
			open, cycle = true, nil
		case piece == ")" && open:
			open = false
			for i := 1; i < len(cycle); i++ {
				swap := one(n)
				swap[cycle[0]], swap[cycle[i]] = cycle[i], cycle[0]
				p = mul(p, swap)
			}
		case !open || !number.MatchString(piece):
			return nil, api.Fault{Err: api.ErrSyntax, At: at[0]}
		case err != nil || x >= n:
			return nil, api.Fault{Err: api.ErrRange, At: at[0]}
		case occurred[x]:
			return nil, api.Fault{Err: api.ErrDouble, At: at[0]}
		default:
			occurred[x] = true
			cycle = append(cycle, x)
		}
	}
	if open {
		return nil, api.Fault{Err: api.ErrSyntax, At: len(s)}
	}
	return p, api.Fault{}
}

// TestParseEvery tests P1.3: Parse against the reference reader, for all texts of up to seven of these bytes.
func TestParseEvery(t *testing.T) {
	const bytes = "()0123 "
	for length := range 8 {
		count := 1
		for range length {
			count *= len(bytes)
		}
		for k := range count {
			b := make([]byte, length)
			for i := range b {
				b[i], k = bytes[k%len(bytes)], k/len(bytes)
			}
			sameAsReference(t, string(b), 3)
		}
	}
}

func sameAsReference(t *testing.T, s string, n int) {
	t.Helper()
	p, f := Parse(s, n)
	q, g := reference(s, n)
	if f != g || !slices.Equal(p, q) {
		t.Fatalf("Parse(%q, %d) = %v, %v, want %v, %v", s, n, p, f, q, g)
	}
}

// FuzzParse tests P1 and P1.3: Parse ends, and agrees with the reference reader.
func FuzzParse(f *testing.F) {
	for _, s := range []string{"", "(0 1 2)(3 4)", " ( 10 11 ) (12 63)", "(0 1", "(0 1)(1 2)", "(01 2)", "(64)", "x", "\x80(", strings.Repeat("(0", 40)} {
		f.Add(s, 64)
		f.Add(s, 5)
		f.Add(s, 0)
	}
	f.Fuzz(func(t *testing.T, s string, n int) {
		p, fault := Parse(s, n)
		if fault.Err == api.OK && (len(p) != n || Check(p) != api.OK) {
			t.Fatalf("Parse(%q, %d) = %v", s, n, p)
		}
		ascii := !strings.ContainsFunc(s, func(r rune) bool { return r > 127 })
		if 1 <= n && n <= 64 && len(s) <= api.MaxText && ascii {
			sameAsReference(t, s, n)
		}
	})
}

// TestTextParse tests P1.7: Parse reads from Text the same permutation, and the product of its cycles is it, too.
func TestTextParse(t *testing.T) {
	for _, a := range append(append(every(1), every(6)...), shuffled(180)...) {
		s := must[string](t)(Text(a))
		if p, f := Parse(s, len(a)); f != (api.Fault{}) || !slices.Equal(p, a) {
			t.Fatalf("Parse(%q, %d) = %v, %v, want %v", s, len(a), p, f, a)
		}
		product := one(len(a))
		for _, c := range must[[][]int](t)(Cycles(a)) {
			p, f := Parse("("+strings.Join(texts(c), " ")+")", len(a))
			if f != (api.Fault{}) {
				t.Fatalf("the cycle %v is not read: %v", c, f)
			}
			product = must[api.Perm](t)(Mul(p, product))
		}
		if !slices.Equal(product, a) {
			t.Fatalf("the product of the cycles of %v is %v", a, product)
		}
	}
}

// texts returns the points of a cycle in decimal.
func texts(c []int) []string {
	var l []string
	for _, x := range c {
		l = append(l, strconv.Itoa(x))
	}
	return l
}
