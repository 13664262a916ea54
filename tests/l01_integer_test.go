package tests

import (
	"math"
	"strings"
	"testing"

	"loop.example/g00513/impl"
)

func TestMaxValue(t *testing.T) {
	if impl.MaxValue != 1000000000000 {
		t.Errorf("MaxValue = %d", impl.MaxValue)
	}
}

func TestFormatInt(t *testing.T) {
	cases := []struct {
		n    int
		want string
	}{
		{0, "0"},
		{7, "7"},
		{-3, "-3"},
		{120, "120"},
		{-1000, "-1000"},
		{impl.MaxValue, "1000000000000"},
		{-impl.MaxValue, "-1000000000000"},
		{impl.MaxValue + 1, "1000000000001"},
		{math.MaxInt, "9223372036854775807"},
		{math.MinInt, "-9223372036854775808"},
	}
	for _, c := range cases {
		if got := impl.FormatInt(c.n); got != c.want {
			t.Errorf("FormatInt(%d) = %q, want %q", c.n, got, c.want)
		}
	}
}

func TestParseIntAccepts(t *testing.T) {
	cases := []struct {
		s    string
		want int
	}{
		{"0", 0},
		{"1", 1},
		{"9", 9},
		{"10", 10},
		{"17", 17},
		{"100", 100},
		{"999999999999", 999999999999},
		{"1000000000000", impl.MaxValue},
	}
	for _, c := range cases {
		if got, ok := impl.ParseInt(c.s); !ok || got != c.want {
			t.Errorf("ParseInt(%q) = %d, %v, want %d, true", c.s, got, ok, c.want)
		}
	}
}

func TestParseIntRejects(t *testing.T) {
	cases := []string{
		"",                               // empty
		"+", "-", "+0", "-0", "+1", "-1", // signs
		"-1000000000000", "--1", "+-1",
		"00", "01", "017", "0000000000000", "01000000000000", // leading zeros
		" 1", "1 ", "1 2", "\t1", "1\n", "1\x00", "\x001", // spaces and controls
		"a", "1x", "x1", "1e3", "1.0", "1,000", "1_000", "0x10", "0b1", "0o7", // other notations
		"/", ":", "1/", "1:", // the neighbours of the digits
		"\u0661", "\uff11", "\xff", "1\xff", // digits of other scripts; not UTF-8
		"1000000000001", "9999999999999", "10000000000000", // beyond MaxValue
		"9223372036854775807", "9223372036854775808", "-9223372036854775808",
		"18446744073709551616", "18446744073709551617", // 0 and 1 after a wraparound
		"184467440737095516160", strings.Repeat("9", 1000), strings.Repeat("0", 1000) + "1",
	}
	for _, s := range cases {
		if got, ok := impl.ParseInt(s); ok || got != 0 {
			t.Errorf("ParseInt(%q) = %d, %v, want 0, false", s, got, ok)
		}
	}
}

func TestParseIntInvertsFormatInt(t *testing.T) {
	check := func(n int) {
		got, ok := impl.ParseInt(impl.FormatInt(n))
		wantOk := 0 <= n && n <= impl.MaxValue
		want := 0
		if wantOk {
			want = n
		}
		if got != want || ok != wantOk {
			t.Errorf("ParseInt(FormatInt(%d)) = %d, %v, want %d, %v", n, got, ok, want, wantOk)
		}
	}
	for n := -1100; n <= 1100; n++ {
		check(n)
	}
	for power := 1; power <= impl.MaxValue; power *= 10 {
		for d := -2; d <= 2; d++ {
			check(power + d)
			check(-power + d)
		}
	}
	for n := 1; n <= impl.MaxValue; n = n*3 + 1 {
		check(n)
	}
}

// Every string of up to three of these characters is accepted if and only if it is a number without a sign and without leading zeros.
func TestParseIntShortStrings(t *testing.T) {
	alphabet := "0129+- x"
	canonical := map[string]int{}
	for n := 0; n < 1000; n++ {
		canonical[impl.FormatInt(n)] = n
	}
	words := []string{""}
	for i := 0; i < len(words); i++ {
		s := words[i]
		want, wantOk := canonical[s]
		if got, ok := impl.ParseInt(s); got != want || ok != wantOk {
			t.Errorf("ParseInt(%q) = %d, %v, want %d, %v", s, got, ok, want, wantOk)
		}
		if len(s) < 3 {
			for _, r := range alphabet {
				words = append(words, s+string(r))
			}
		}
	}
}

func TestMinMax(t *testing.T) {
	cases := []struct{ a, b, least, greatest int }{
		{2, -1, -1, 2},
		{-1, 2, -1, 2},
		{1, 2, 1, 2},
		{2, 1, 1, 2},
		{-5, -3, -5, -3},
		{-3, -5, -5, -3},
		{0, 0, 0, 0},
		{4, 4, 4, 4},
		{0, 3, 0, 3},
		{0, -3, -3, 0},
		{math.MinInt, math.MaxInt, math.MinInt, math.MaxInt},
		{math.MaxInt, math.MinInt, math.MinInt, math.MaxInt},
		{math.MinInt, 1, math.MinInt, 1},
		{-1, math.MaxInt, -1, math.MaxInt},
		{math.MinInt, math.MinInt, math.MinInt, math.MinInt},
		{math.MaxInt, math.MaxInt, math.MaxInt, math.MaxInt},
	}
	for _, c := range cases {
		if got := impl.Min(c.a, c.b); got != c.least {
			t.Errorf("Min(%d, %d) = %d, want %d", c.a, c.b, got, c.least)
		}
		if got := impl.Max(c.a, c.b); got != c.greatest {
			t.Errorf("Max(%d, %d) = %d, want %d", c.a, c.b, got, c.greatest)
		}
	}
}

func TestCeilDiv(t *testing.T) {
	cases := []struct{ a, b, want int }{
		{7, 3, 3},
		{6, 3, 2},
		{0, 1, 0},
		{0, 5, 0},
		{1, 1, 1},
		{1, 5, 1},
		{5, 5, 1},
		{6, 5, 2},
		{impl.MaxValue, 1, impl.MaxValue},
		{impl.MaxValue, impl.MaxValue, 1},
		{impl.MaxValue - 1, impl.MaxValue, 1},
		{1, impl.MaxValue, 1},
		{impl.MaxValue, 3, 333333333334},
		{impl.MaxValue, impl.MaxValue - 1, 2},
	}
	for _, c := range cases {
		if got := impl.CeilDiv(c.a, c.b); got != c.want {
			t.Errorf("CeilDiv(%d, %d) = %d, want %d", c.a, c.b, got, c.want)
		}
	}
}

func TestCeilDivOutOfRange(t *testing.T) {
	cases := [][2]int{
		{-1, 1}, {-2, 1}, {-1, 2}, {-5, 2}, {-4, -2}, {math.MinInt, 1},
		{impl.MaxValue + 1, 1}, {impl.MaxValue + 1, impl.MaxValue}, {math.MaxInt, 2},
		{1, 0}, {0, 0}, {7, -3}, {math.MinInt, -1},
		{1, impl.MaxValue + 1}, {impl.MaxValue, impl.MaxValue + 1}, {1, math.MaxInt}, {1, math.MinInt},
	}
	for _, c := range cases {
		if got := impl.CeilDiv(c[0], c[1]); got != 0 {
			t.Errorf("CeilDiv(%d, %d) = %d, want 0", c[0], c[1], got)
		}
	}
}

func TestCeilDivIsTheLeastQuotient(t *testing.T) {
	for a := 0; a <= 60; a++ {
		for b := 1; b <= 60; b++ {
			want := 0
			for want*b < a {
				want++
			}
			if got := impl.CeilDiv(a, b); got != want {
				t.Errorf("CeilDiv(%d, %d) = %d, want %d", a, b, got, want)
			}
		}
	}
}

func TestMod(t *testing.T) {
	cases := []struct{ p, q, want int }{
		{-1, 7, 6},
		{15, 7, 1},
		{0, 7, 0},
		{7, 7, 0},
		{-7, 7, 0},
		{-8, 7, 6},
		{6, 7, 6},
		{5, 1, 0},
		{-5, 1, 0},
		{impl.MaxValue, impl.MaxValue, 0},
		{impl.MaxValue + 1, impl.MaxValue, 1},
		{-1, impl.MaxValue, impl.MaxValue - 1},
		{-impl.MaxValue, impl.MaxValue, 0},
		{math.MaxInt, 10, 7},
		{math.MinInt, 10, 2},
		{math.MinInt, 1, 0},
		{math.MaxInt, impl.MaxValue, 36854775807},
		{math.MinInt, impl.MaxValue, impl.MaxValue - 36854775808},
	}
	for _, c := range cases {
		if got := impl.Mod(c.p, c.q); got != c.want {
			t.Errorf("Mod(%d, %d) = %d, want %d", c.p, c.q, got, c.want)
		}
	}
}

func TestModOutOfRange(t *testing.T) {
	cases := [][2]int{
		{3, 0}, {0, 0}, {-3, 0}, {math.MinInt, 0},
		{3, -1}, {3, -7}, {-3, -7}, {math.MinInt, -1}, {3, math.MinInt},
		{3, impl.MaxValue + 1}, {-3, impl.MaxValue + 1}, {3, math.MaxInt}, {-3, math.MaxInt},
	}
	for _, c := range cases {
		if got := impl.Mod(c[0], c[1]); got != 0 {
			t.Errorf("Mod(%d, %d) = %d, want 0", c[0], c[1], got)
		}
	}
}

func TestModIsTheRemainder(t *testing.T) {
	for q := 1; q <= 20; q++ {
		want := 0
		for p := -20 * q; p <= 20*q; p++ {
			if got := impl.Mod(p, q); got != want {
				t.Errorf("Mod(%d, %d) = %d, want %d", p, q, got, want)
			}
			want++
			if want == q {
				want = 0
			}
		}
	}
}

func TestInRange(t *testing.T) {
	cases := []struct {
		n, low, high int
		want         bool
	}{
		{2, 2, 3, true},
		{3, 2, 3, true},
		{4, 2, 3, false},
		{1, 2, 3, false},
		{5, 1, 9, true},
		{2, 2, 2, true},
		{2, 3, 1, false}, // an empty range
		{0, -1, 1, true},
		{-2, -3, -1, true},
		{0, math.MinInt, math.MaxInt, true},
		{math.MinInt, math.MinInt, math.MaxInt, true},
		{math.MaxInt, math.MinInt, math.MaxInt, true},
		{math.MinInt, math.MinInt + 1, math.MaxInt, false},
		{math.MaxInt, math.MinInt, math.MaxInt - 1, false},
		{math.MinInt, 0, math.MaxInt, false},
		{math.MaxInt, math.MinInt, 0, false},
		{0, math.MaxInt, math.MinInt, false},
		{math.MaxInt, math.MaxInt, math.MinInt, false},
		{math.MinInt, math.MaxInt, math.MinInt, false},
	}
	for _, c := range cases {
		if got := impl.InRange(c.n, c.low, c.high); got != c.want {
			t.Errorf("InRange(%d, %d, %d) = %v, want %v", c.n, c.low, c.high, got, c.want)
		}
	}
}
