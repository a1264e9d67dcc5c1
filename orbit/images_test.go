package orbit

import (
	"fmt"
	"math/rand"
	"slices"
	"testing"

	"cayley/api"
)

// wantSets and wantTuples report other images than the expected ones.
func wantSets(t *testing.T, g api.Group, set []int, wanted ...[]int) {
	t.Helper()
	l, e := Sets(g, set)
	want(t, fmt.Sprint("Sets of ", set), l, e, wanted, api.OK)
}

func wantTuples(t *testing.T, g api.Group, tuple []int, wanted ...[]int) {
	t.Helper()
	l, e := Tuples(g, tuple)
	want(t, fmt.Sprint("Tuples of ", tuple), l, e, wanted, api.OK)
}

// TestImagesExamples tests P7.5 with the chapter's examples.
func TestImagesExamples(t *testing.T) {
	wantSets(t, example(), []int{0, 3}, []int{0, 3}, []int{0, 4}, []int{1, 3}, []int{1, 4}, []int{2, 3}, []int{2, 4})
	l, e := Sets(example(), []int{3, 0})
	want(t, "Sets(g, 3 0)", l, e, nil, api.ErrOrder)
	wantTuples(t, example(), []int{3, 3}, []int{3, 3}, []int{4, 4})
}

// TestImages tests P7.5: images that are known. They come in lexicographic order, in which 2 is before 10.
func TestImages(t *testing.T) {
	type list = []int
	wantSets(t, of(3, "(0 1 2)"), list{0, 1}, list{0, 1}, list{0, 2}, list{1, 2})
	wantSets(t, of(3, "(0 1 2)"), list{1, 2}, list{0, 1}, list{0, 2}, list{1, 2})
	wantTuples(t, of(3, "(0 1 2)"), list{1, 2}, list{0, 1}, list{1, 2}, list{2, 0})
	wantTuples(t, of(3, "(0 1 2)"), list{2, 1}, list{0, 2}, list{1, 0}, list{2, 1})
	wantTuples(t, of(3, "(0 1 2)"), list{2, 2, 1}, list{0, 0, 2}, list{1, 1, 0}, list{2, 2, 1})
	wantSets(t, of(12, "(0 2 10)"), list{10}, list{0}, list{2}, list{10})
	wantSets(t, of(12, "(2 10)", "(3 11)"), list{1, 2, 3}, list{1, 2, 3}, list{1, 2, 11}, list{1, 3, 10}, list{1, 10, 11})
	wantTuples(t, of(12, "(2 10)", "(3 11)"), list{3, 1, 2}, list{3, 1, 2}, list{3, 1, 10}, list{11, 1, 2}, list{11, 1, 10})
	wantSets(t, of(4, "(0 1)(2 3)", "(0 2)(1 3)"), list{0, 3}, list{0, 3}, list{1, 2})
	wantTuples(t, of(4, "(0 1)(2 3)", "(0 2)(1 3)"), list{0, 3}, list{0, 3}, list{1, 2}, list{2, 1}, list{3, 0})
	wantSets(t, api.Group{Degree: 5}, list{1, 3}, list{1, 3})
	wantTuples(t, api.Group{Degree: 5}, list{3, 1, 3}, list{3, 1, 3})
	wantSets(t, of(5, "()", "()"), list{1, 3}, list{1, 3})
	wantTuples(t, of(5, "()", "()"), list{3, 1, 3}, list{3, 1, 3})
}

// TestImagesLengths tests P7.5: sets and tuples of no elements, of one, and of up to 64.
func TestImagesLengths(t *testing.T) {
	for _, g := range append(small()[:10], great()...) {
		for _, l := range [][]int{nil, {}} {
			wantSets(t, g, l, nil)
			wantTuples(t, g, l, nil)
		}
		wantSets(t, g, identity(g.Degree), identity(g.Degree))
		part := parts(g)
		for _, p := range []int{0, g.Degree / 2, g.Degree - 1} {
			var single [][]int
			for _, q := range partOf(part, part[p]) {
				single = append(single, []int{q})
			}
			wantSets(t, g, []int{p}, single...)
			wantTuples(t, g, []int{p}, single...)
			for _, k := range []int{2, 63, 64} {
				var equal [][]int
				for _, q := range single {
					equal = append(equal, repeated(q[0], k))
				}
				wantTuples(t, g, repeated(p, k), equal...)
			}
		}
	}
	down := identity(64)
	slices.Reverse(down)
	var turned [][]int
	for i := range 64 {
		turned = append(turned, slices.Concat(identity(64)[i:], identity(64)[:i]))
	}
	wantTuples(t, cycles(64, 64), turned[5], turned...)
	wantTuples(t, api.Group{Degree: 64}, down, down)
	wantSets(t, cycles(64, 64), sequence(1, 63), without(63)...)
	wantSets(t, all(64, 64), sequence(0, 63), without(63)...)
}

// without returns the sets of all points from 0 to n but one, in lexicographic order.
func without(n int) [][]int {
	var l [][]int
	for p := n; p >= 0; p-- {
		l = append(l, slices.Delete(sequence(0, n+1), p, p+1))
	}
	return l
}

// TestImagesEvery tests P7.5: images of all sets and of many tuples, against the images under all elements.
func TestImagesEvery(t *testing.T) {
	r := rand.New(rand.NewSource(5))
	for _, g := range small() {
		all := elements(g)
		for number := range 1 << g.Degree {
			if g.Degree > 6 && r.Intn(30) > 0 {
				continue
			}
			var set []int
			for p := range g.Degree {
				if number>>p&1 == 1 {
					set = append(set, p)
				}
			}
			wantSets(t, g, set, textbookImages(all, set, true)...)
		}
		for length := range 8 {
			var tuple []int
			for range length {
				tuple = append(tuple, r.Intn(g.Degree))
			}
			images := textbookImages(all, tuple, false)
			if len(images) <= api.MaxList {
				wantTuples(t, g, tuple, images...)
			} else {
				l, e := Tuples(g, tuple)
				want(t, "Tuples", l, e, nil, api.ErrOver)
			}
		}
	}
}

// many stands for a number of images that is far too great.
const many = 1 << 60

// TestImagesNumbers tests P7.5: how many images there may be, just 5,040 among them. No group of a degree up to 64 maps a list to 5,041 to 5,045 images: each of these numbers has a prime factor, or a power of one, that does not divide the number of permutations of 64 points.
func TestImagesNumbers(t *testing.T) {
	for _, x := range []struct {
		g     api.Group
		l     []int
		count int
	}{
		{cycles(64, 7, 8, 9, 10), []int{0, 7, 15, 24}, 5040}, {cycles(34, 10, 9, 8, 7), []int{9, 18, 26, 33}, 5040}, {cycles(64, 8, 17, 37), []int{0, 8, 25}, 5032}, {cycles(64, 2, 3, 29, 29), []int{0, 2, 5, 34}, 5046}, {cycles(64, 29, 29, 3, 2), []int{28, 57, 60, 62}, 5046},
		{cycles(64, 16, 16, 20), []int{0, 16, 32}, 5120}, {cycles(64, repeated(4, 16)...), []int{0, 4, 8, 12, 16, 20}, 4096}, {cycles(64, repeated(4, 16)...), []int{0, 4, 8, 12, 16, 20, 24}, 16384},
	} {
		sets, e := Sets(x.g, x.l)
		wantNumber(t, "Sets", sets, e, x.count)
		tuples, e := Tuples(x.g, x.l)
		wantNumber(t, "Tuples", tuples, e, x.count)
		slices.Reverse(x.l)
		tuples, e = Tuples(x.g, append(x.l, x.l...))
		wantNumber(t, "Tuples", tuples, e, x.count)
	}
	for _, x := range []struct{ n, k, count int }{{7, 7, 5040}, {7, 6, 5040}, {7, 5, 2520}, {8, 5, 6720}, {8, 4, 1680}, {18, 3, 4896}, {19, 3, 5814}, {64, 2, 4032}, {64, 3, 249984}, {64, 64, many}} {
		tuples, e := Tuples(all(64, x.n), sequence(0, x.k))
		wantNumber(t, "Tuples", tuples, e, x.count)
	}
	for _, x := range []struct{ n, k, count int }{{64, 1, 64}, {64, 2, 2016}, {64, 3, 41664}, {64, 61, 41664}, {64, 62, 2016}, {64, 63, 64}, {64, 64, 1}, {64, 32, many}, {32, 3, 4960}, {32, 29, 4960}, {33, 3, 5456}, {15, 6, 5005}, {15, 9, 5005}, {15, 7, 6435}, {16, 5, 4368}, {16, 6, 8008}} {
		sets, e := Sets(all(64, x.n), sequence(0, x.k))
		wantNumber(t, "Sets", sets, e, x.count)
	}
}

// wantNumber reports images that are not as many as expected, not in order, or found where there are too many.
func wantNumber(t *testing.T, name string, l [][]int, e api.Errno, count int) {
	t.Helper()
	if count > api.MaxList {
		want(t, name, l, e, nil, api.ErrOver)
		return
	}
	if e != api.OK || len(l) != count {
		t.Fatalf("%s: %d images, error %d, want %d", name, len(l), int(e), count)
	}
	for i := 1; i < count; i++ {
		if slices.Compare(l[i-1], l[i]) >= 0 {
			t.Fatalf("%s: %v comes before %v", name, l[i-1], l[i])
		}
	}
}
