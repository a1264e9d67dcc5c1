package perm

import (
	"math"
	"strconv"
	"strings"
	"testing"

	"cayley/api"
)

// The factorials of 64 and of 120; that of 121 has 201 digits.
const (
	factorial64  api.Num = "126886932185884164103433389335161480802865516174545192198801894375214704230400000000000000"
	factorial120 api.Num = "6689502913449127057588118054090372586752746333138029810295671352301633557244962989366874165271984981308157637893214090552534408589408121859898481114389650005964960521256960000000000000000000000000000"
)

// zeros is a digit with n zeros behind it.
func zeros(digit string, n int) api.Num { return api.Num(digit + strings.Repeat("0", n)) }

// TestTimes tests P1.4: products.
func TestTimes(t *testing.T) {
	for _, x := range []struct {
		a    api.Num
		n    int
		want api.Num
	}{
		{"999999999999", 1000, "999999999999000"}, {"1", 1, "1"}, {"1", 1000000000, "1000000000"}, {"9", 9, "81"}, {"25", 4, "100"}, {"105", 7, "735"},
		{"18446744073709551615", 999999999, "18446744055262807541290448385"}, {"1000000000", 1000000000, "1000000000000000000"},
		{zeros("1", 199), 1, zeros("1", 199)}, {zeros("1", 190), 1000000000, zeros("1", 199)}, {zeros("4", 199), 2, zeros("8", 199)},
		{api.Num(strings.Repeat("9", 200)), 1, api.Num(strings.Repeat("9", 200))}, {api.Num(strings.Repeat("3", 200)), 3, api.Num(strings.Repeat("9", 200))},
		{api.Num(strings.Repeat("9", 191)), 999999999, api.Num("999999998" + strings.Repeat("9", 182) + "000000001")},
	} {
		if got := must[api.Num](t)(Times(x.a, x.n)); got != x.want {
			t.Errorf("Times(%s, %d) = %s, want %s", x.a, x.n, got, x.want)
		}
	}
}

// TestTimesSmall tests P1.4: products and quotients that fit into an int.
func TestTimesSmall(t *testing.T) {
	for a := 1; a <= 300; a++ {
		for n := 1; n <= 120; n++ {
			x := api.Num(strconv.Itoa(a))
			if got := must[api.Num](t)(Times(x, n)); string(got) != strconv.Itoa(a*n) {
				t.Fatalf("Times(%d, %d) = %s", a, n, got)
			}
			got, e := Ratio(x, n)
			if a%n == 0 && (e != api.OK || string(got) != strconv.Itoa(a/n)) {
				t.Fatalf("Ratio(%d, %d) = %s, %d", a, n, got, e)
			}
			if a%n != 0 && (e != api.ErrNone || got != "") {
				t.Fatalf("Ratio(%d, %d) = %s, %d", a, n, got, e)
			}
		}
	}
}

// TestFactorials tests P1.4: long products and quotients.
func TestFactorials(t *testing.T) {
	x := api.Num("1")
	for n := 1; n <= 120; n++ {
		x = must[api.Num](t)(Times(x, n))
		if n == 64 && x != factorial64 {
			t.Errorf("64! = %s", x)
		}
	}
	if x != factorial120 {
		t.Errorf("120! = %s", x)
	}
	if _, e := Times(x, 121); e != api.ErrOver {
		t.Errorf("121!: error %d", e)
	}
	if _, e := Ratio(x, 127); e != api.ErrNone {
		t.Errorf("120!/127: error %d", e)
	}
	for n := 120; n >= 1; n-- {
		x = must[api.Num](t)(Ratio(x, n))
	}
	if x != "1" {
		t.Errorf("120!/120! = %s", x)
	}
}

// TestRatio tests P1.4: quotients.
func TestRatio(t *testing.T) {
	for _, x := range []struct {
		a    api.Num
		n    int
		want api.Num
	}{
		{"6", 3, "2"}, {"6", 6, "1"}, {"6", 1, "6"}, {"1", 1, "1"}, {"1000000000", 1000000000, "1"}, {"735", 7, "105"}, {"100", 25, "4"}, {"1002", 2, "501"},
		{"999999999000000000", 1000000000, "999999999"}, {"999999998000000001", 999999999, "999999999"},
		{zeros("1", 199), 1000000000, zeros("1", 190)}, {zeros("1", 199), 1, zeros("1", 199)}, {api.Num(strings.Repeat("9", 200)), 3, api.Num(strings.Repeat("3", 200))},
	} {
		if got := must[api.Num](t)(Ratio(x.a, x.n)); got != x.want {
			t.Errorf("Ratio(%s, %d) = %s, want %s", x.a, x.n, got, x.want)
		}
	}
	for _, x := range []struct {
		a api.Num
		n int
	}{{"6", 4}, {"1", 2}, {"1", 1000000000}, {"999999999", 1000000000}, {"7", 6}, {zeros("1", 199), 3}, {zeros("1", 199), 999999999}} {
		if got, e := Ratio(x.a, x.n); got != "" || e != api.ErrNone {
			t.Errorf("Ratio(%s, %d) = %s, %d", x.a, x.n, got, e)
		}
	}
}

// TestNumErrors tests P1.4: the errors of Times and Ratio, and which comes first.
func TestNumErrors(t *testing.T) {
	expect := func(a api.Num, n int, times, ratio api.Errno) {
		t.Helper()
		if got, e := Times(a, n); got != "" || e != times {
			t.Errorf("Times(%.20q, %d) = %s, %d, want %d", a, n, got, e, times)
		}
		if got, e := Ratio(a, n); got != "" || e != ratio {
			t.Errorf("Ratio(%.20q, %d) = %s, %d, want %d", a, n, got, e, ratio)
		}
	}
	for _, a := range []api.Num{"", "0", "00", "06", "-6", "+6", "6 ", " 6", "6.0", "6/1", "1e3", "1_000", "a", "6a", "6:", "\u0661", "\xff", zeros("1", 200), zeros("0", 300), zeros("1", 100000)} {
		for _, n := range []int{2, 0, -1, 1000000001, math.MinInt} {
			expect(a, n, api.ErrForm, api.ErrForm)
		}
	}
	for _, n := range []int{-1, -6, 1000000001, math.MaxInt, math.MinInt, 1<<32 + 1} {
		expect("6", n, api.ErrRange, api.ErrRange)
		expect(zeros("9", 199), n, api.ErrRange, api.ErrRange)
	}
	expect("6", 0, api.ErrRange, api.ErrZero)
	expect(zeros("9", 199), 0, api.ErrRange, api.ErrZero)
	for _, x := range []struct {
		a api.Num
		n int
	}{{zeros("1", 199), 10}, {zeros("5", 199), 2}, {zeros("1", 191), 1000000000}, {zeros("9", 199), 1000000000}, {api.Num(strings.Repeat("3", 199) + "4"), 3}} {
		if got, e := Times(x.a, x.n); got != "" || e != api.ErrOver {
			t.Errorf("Times(%s, %d) = %s, %d", x.a, x.n, got, e)
		}
	}
}

// TestRatioTimes tests P1.7: Ratio undoes Times.
func TestRatioTimes(t *testing.T) {
	for _, a := range []api.Num{"1", "2", "9", "10", "99", "1000000007", "18446744073709551616", factorial64, zeros("1", 190), api.Num(strings.Repeat("9", 191)), api.Num(strings.Repeat("1234567890", 19))} {
		for n := 1; n <= 1000000000; n = 3*n + n/7%5 {
			product := must[api.Num](t)(Times(a, n))
			if got := must[api.Num](t)(Ratio(product, n)); got != a {
				t.Fatalf("Ratio(%s, %d) = %s, want %s", product, n, got, a)
			}
		}
	}
}
