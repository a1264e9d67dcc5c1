package word

import (
	"math"
	"slices"
	"testing"

	"cayley/api"
)

// substituted is the reference for Subst: it writes all images down, and reduces them at the end.
func substituted(w api.Word, images []api.Word) api.Word {
	var v api.Word
	for _, x := range w {
		if x > 0 {
			v = append(v, images[x-1]...)
		} else {
			v = append(v, turned(images[-x-1])...)
		}
	}
	return removed(v, first)
}

// replaced reports a word of Subst that is not the expected one.
func replaced(t *testing.T, w api.Word, images []api.Word, want api.Word) {
	t.Helper()
	got, e := Subst(w, images)
	if e != api.OK || !slices.Equal(got, want) {
		t.Fatalf("Subst(%.40v, %.80v) = %.40v, error %d, want %.40v", w, images, got, int(e), want)
	}
}

// TestSubst tests P2.2: Subst, with the chapter's example and against the reference.
func TestSubst(t *testing.T) {
	replaced(t, of(1, -2), []api.Word{of(2, 2), of(1)}, of(2, 2, -1))
	replaced(t, nil, nil, nil)
	replaced(t, nil, []api.Word{of(1)}, nil)
	replaced(t, of(1, 1, -1), []api.Word{nil}, nil)
	images := mixed(3, 40, 5, 1, -1, 2, -2, 3)
	odds := mixed(4, 40, 4, odd()...)
	for i, w := range slices.Concat(every(4, 1, -1, 2, -2, 3), mixed(5, 400, 30, 1, -1, 2, -2, 3, -3)) {
		for _, l := range [][]api.Word{images, odds} {
			k := i % (len(l) - 2)
			replaced(t, w, l[k:k+3], substituted(w, l[k:k+3]))
		}
	}
}

// TestSubstOdd tests P2.2: letters of images need not be valid; those without an inverse do not cancel.
func TestSubstOdd(t *testing.T) {
	replaced(t, of(-1), []api.Word{of(0, 5)}, of(-5, 0))
	replaced(t, of(1, -1), []api.Word{of(0)}, of(0, 0))
	replaced(t, of(-1, 1), []api.Word{of(math.MinInt)}, of(math.MinInt, math.MinInt))
	replaced(t, of(1, -1), []api.Word{of(math.MaxInt)}, nil)
	replaced(t, of(20), slices.Concat(make([]api.Word, 19), []api.Word{of(99)}), of(99))
}

// TestSubstErrors tests P2.2: the errors of Subst, and which comes first.
func TestSubstErrors(t *testing.T) {
	one := []api.Word{of(1)}
	big := []api.Word{times(of(1), 4001)}
	for _, x := range []struct {
		name   string
		w      api.Word
		images []api.Word
		e      api.Errno
	}{
		{"the chapter's example", of(3), one, api.ErrRange}, {"letter 2", of(1, 2), one, api.ErrRange}, {"letter -2", of(-2), one, api.ErrRange}, {"letter 0", of(1, 0), one, api.ErrRange},
		{"no images", of(1), nil, api.ErrRange}, {"letter 0, no images", of(0), nil, api.ErrRange}, {"the least letter", of(math.MinInt), one, api.ErrRange}, {"the greatest letter", of(math.MaxInt), one, api.ErrRange}, {"2 that cancels", of(2, -2), one, api.ErrRange},
		{"4,001 letters", of(1), big, api.ErrLong}, {"4,001 times 1", times(of(1), 4001), one, api.ErrLong}, {"two halves", of(1, 1), []api.Word{times(of(1), 2001)}, api.ErrLong},
		{"letter 0 behind a long one", of(1, 0), big, api.ErrRange}, {"letter 2 behind a long one", of(1, 2), big, api.ErrRange},
	} {
		if got, e := Subst(x.w, x.images); e != x.e || got != nil {
			t.Errorf("%s: %d letters, error %d, want %d", x.name, len(got), int(e), int(x.e))
		}
	}
}

// TestSubstLong tests P2.2: it is the reduced form that has at most 4,000 letters, whatever was there before.
func TestSubstLong(t *testing.T) {
	replaced(t, times(of(1), 4000), []api.Word{of(1)}, times(of(1), 4000))
	replaced(t, times(of(-1), 2000), []api.Word{of(1, 2)}, times(of(-2, -1), 2000))
	replaced(t, of(1), []api.Word{times(of(1), 4000)}, times(of(1), 4000))
	replaced(t, of(1), []api.Word{slices.Concat(times(of(1), 5000), times(of(-1), 5000), of(2))}, of(2))
	replaced(t, of(1, 2, -1), []api.Word{times(of(1), 9000), of(1)}, of(1))
	long, back := times(of(1, 2), 5000), times(of(-2, -1), 5000)
	replaced(t, slices.Concat(times(of(1), 3000), times(of(2), 3000)), []api.Word{long, back}, nil)
	replaced(t, slices.Concat(times(of(1), 300), times(of(2), 30000000/len(back))), []api.Word{times(long, 10), back}, nil)
	if _, e := Subst(times(of(1), 300000), []api.Word{long}); e != api.ErrLong {
		t.Errorf("3,000,000,000 letters: error %d", int(e))
	}
}

// TestSums tests P2.2: Sums.
func TestSums(t *testing.T) {
	for _, x := range []struct {
		w    api.Word
		gens int
		want []int
	}{
		{of(1, 1, -2), 2, []int{2, -1}}, {nil, 1, []int{0}}, {nil, 16, make([]int, 16)}, {of(1, -1), 2, []int{0, 0}}, {of(-3, 2, -3, -1, 2, 3), 4, []int{-1, 2, -1, 0}},
		{times(of(1), 4000), 1, []int{4000}}, {times(of(-2), 4000), 2, []int{0, -4000}}, {of(16, -15), 16, append(make([]int, 14), -1, 1)},
	} {
		if got, e := Sums(x.w, x.gens); e != api.OK || !slices.Equal(got, x.want) {
			t.Errorf("Sums(%.40v, %d) = %v, error %d, want %v", x.w, x.gens, got, int(e), x.want)
		}
	}
	for _, x := range []struct {
		w    api.Word
		gens int
		e    api.Errno
	}{
		{nil, 0, api.ErrRange}, {nil, 17, api.ErrRange}, {nil, math.MinInt, api.ErrRange}, {nil, math.MaxInt, api.ErrRange}, {of(3), 2, api.ErrRange}, {of(0), 2, api.ErrRange}, {of(1, -3), 2, api.ErrRange}, {of(math.MinInt), 2, api.ErrRange},
		{times(of(1), 4001), 2, api.ErrLong}, {times(of(0), 4001), 2, api.ErrLong}, {times(of(1), 4001), 0, api.ErrRange},
	} {
		if got, e := Sums(x.w, x.gens); e != x.e || got != nil {
			t.Errorf("Sums(%.40v, %d) = %v, error %d, want %d", x.w, x.gens, got, int(e), int(x.e))
		}
	}
}
