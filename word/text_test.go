package word

import (
	"math"
	"slices"
	"strings"
	"testing"

	"cayley/api"
)

// TestText tests P2.3: Text.
func TestText(t *testing.T) {
	for _, x := range []struct {
		w    api.Word
		want string
	}{
		{of(1, 1, 1, -2, 3, -3), "a^3*b^-1*c*c^-1"}, {nil, "1"}, {of(), "1"}, {of(1), "a"}, {of(-1), "a^-1"}, {of(1, 1), "a^2"}, {of(-1, -1), "a^-2"}, {of(1, -1), "a*a^-1"}, {of(-1, -1, 1), "a^-2*a"},
		{of(1, 2, 1), "a*b*a"}, {of(2, 2, 1, 1, 2), "b^2*a^2*b"}, {of(16, -16), "p*p^-1"},
		{of(1, 2, 3, 4, 5, 6, 7, 8, 9, 10, 11, 12, 13, 14, 15, 16), "a*b*c*d*e*f*g*h*i*j*k*l*m*n*o*p"},
		{times(of(1), 4000), "a^4000"}, {times(of(-16), 4000), "p^-4000"}, {times(of(-1, -2), 2000), strings.Repeat("*a^-1*b^-1", 2000)[1:]},
	} {
		if got, e := Text(x.w); e != api.OK || got != x.want {
			t.Errorf("Text(%.40v) = %.40q, error %d, want %.40q", x.w, got, int(e), x.want)
		}
	}
}

// TestTextErrors tests P2.3: Text has the errors of Check for 16 generators.
func TestTextErrors(t *testing.T) {
	for _, w := range []api.Word{of(0), of(1, 0), of(17), of(-17), of(math.MinInt), of(math.MaxInt), times(of(1), 4001), times(of(0), 4001), append(times(of(1), 3999), 17)} {
		if got, e := Text(w); e != Check(w, 16) || e == api.OK || got != "" {
			t.Errorf("Text(%.40v) = %.40q, error %d", w, got, int(e))
		}
	}
}

// TestRuns tests that runs are maximal, make up the word, and end when who ranges over them does.
func TestRuns(t *testing.T) {
	for _, w := range every(6, 1, -1, 2) {
		var all api.Word
		for x, n := range runs(w) {
			if n < 1 || len(all) > 0 && all[len(all)-1] == x {
				t.Fatalf("runs of %v: %d, %d", w, x, n)
			}
			all = append(all, times(of(x), n)...)
		}
		if !slices.Equal(all, w) {
			t.Fatalf("runs of %v make up %v", w, all)
		}
	}
	for stop := range 4 {
		count := 0
		for range runs(of(1, 1, 2, -1)) {
			if count == stop {
				break
			}
			count++
		}
		if count != min(stop, 3) {
			t.Errorf("%d runs, want %d", count, stop)
		}
	}
}
