package tests

import (
	"math"
	"math/big"
	"strconv"
	"strings"
	"testing"

	"loop.example/g00502/impl"
)

func TestNumText(t *testing.T) {
	for _, c := range []struct {
		n    int
		want string
	}{
		{0, "0"},
		{7, "7"},
		{-7, "-7"},
		{10, "10"},
		{-120, "-120"},
		{impl.MaxInt - 1, "999999999999999"},
		{impl.MaxInt, "1000000000000000"},
		{impl.MaxInt + 1, "1000000000000001"},
		{-impl.MaxInt, "-1000000000000000"},
		{-impl.MaxInt - 1, "-1000000000000001"},
		{math.MaxInt, "9223372036854775807"},
		{math.MinInt, "-9223372036854775808"},
	} {
		if got := impl.NumText(c.n); got != c.want {
			t.Errorf("NumText(%d) = %q, want %q", c.n, got, c.want)
		}
	}
}

func TestMaxInt(t *testing.T) {
	if impl.MaxInt != 1e15 {
		t.Errorf("MaxInt = %d", impl.MaxInt)
	}
}

// edgeInts returns the integers around 0, every power of 2 and of 10, and the limits, with both signs.
func edgeInts() []int {
	l := []int{math.MaxInt, math.MaxInt - 1, math.MinInt, math.MinInt + 1}
	around := func(n int) {
		for d := -2; d <= 2; d++ {
			l = append(l, n+d, -n-d)
		}
	}
	around(0)
	for k, p := 0, 1; k < 62; k, p = k+1, p*2 {
		around(p)
	}
	for k, p := 0, 1; k < 19; k, p = k+1, p*10 {
		around(p)
	}
	around(17)
	around(impl.MaxInt / 2)
	return l
}

func TestParseNumReadsNumText(t *testing.T) {
	l := edgeInts()
	for n := -1200; n <= 1200; n++ {
		l = append(l, n)
	}
	for _, n := range l {
		within := n >= -impl.MaxInt && n <= impl.MaxInt
		want := n
		if !within {
			want = 0
		}
		for _, s := range []string{strconv.Itoa(n), impl.NumText(n)} {
			if got, ok := impl.ParseNum(s); got != want || ok != within {
				t.Errorf("ParseNum(%q) = %d, %t, want %d, %t", s, got, ok, want, within)
			}
		}
	}
}

func TestParseNumRejects(t *testing.T) {
	for _, s := range []string{
		"", "-", "+", "--1", "-+1", "+0", "+1", "-0", "-00", "00", "01", "007", "-01", "-007",
		" 1", "1 ", "1\n", "\t1", "1 2", "- 1", "1.0", "1.", ".5", "1e3", "1E3", "1_000", "1,000",
		"0x1", "0b1", "0o7", "x1", "1x", "a", "f", "Inf", "NaN", "1\x00", "\x00", "\xff", "1\xff",
		"\u0661", "\uff11", "\u22121", "null",
		"1000000000000001", "-1000000000000001", "10000000000000000", "01000000000000000",
		"9223372036854775807", "9223372036854775808", "-9223372036854775808", "-9223372036854775809",
		"18446744073709551616", "18446744073709551617", "340282366920938463463374607431768211457",
		strings.Repeat("9", 1000), "0" + strings.Repeat("0", 1000), strings.Repeat("-", 1000),
	} {
		if n, ok := impl.ParseNum(s); n != 0 || ok {
			t.Errorf("ParseNum(%.40q) = %d, %t, want 0, false", s, n, ok)
		}
	}
}

// TestParseNumShortTexts holds ParseNum against the document's own words for all texts of up to four of these bytes.
func TestParseNumShortTexts(t *testing.T) {
	named := map[string]int{}
	for n := -9999; n <= 9999; n++ {
		named[strconv.Itoa(n)] = n
	}
	var try func(s string)
	try = func(s string) {
		want, listed := named[s]
		if n, ok := impl.ParseNum(s); n != want || ok != listed {
			t.Errorf("ParseNum(%q) = %d, %t, want %d, %t", s, n, ok, want, listed)
		}
		if len(s) < 4 {
			for _, c := range "-+0159_ ." {
				try(s + string(c))
			}
		}
	}
	try("")
}

func TestPow(t *testing.T) {
	for _, b := range []int{2, 5, 10} {
		want := 1
		for k := 0; k <= 17; k++ {
			if got := impl.Pow(b, k); got != want {
				t.Errorf("Pow(%d, %d) = %d, want %d", b, k, got, want)
			}
			want *= b
		}
		for _, k := range []int{18, 19, 63, 64, 65, 100, -1, -2, -17, math.MaxInt, math.MinInt} {
			if got := impl.Pow(b, k); got != 0 {
				t.Errorf("Pow(%d, %d) = %d, want 0", b, k, got)
			}
		}
	}
	if a, b, c := impl.Pow(2, 17), impl.Pow(5, 17), impl.Pow(10, 17); a != 131072 || b != 762939453125 || c != 100000000000000000 {
		t.Error("the largest powers are", a, b, c)
	}
}

func TestPowOtherBases(t *testing.T) {
	bases := []int{math.MinInt, math.MaxInt, 100, 1 << 32, 1<<32 + 2}
	for b := -20; b <= 20; b++ {
		if b != 2 && b != 5 && b != 10 {
			bases = append(bases, b)
		}
	}
	for _, b := range bases {
		for _, k := range []int{-1, 0, 1, 2, 16, 17, 18, math.MaxInt, math.MinInt} {
			if got := impl.Pow(b, k); got != 0 {
				t.Errorf("Pow(%d, %d) = %d, want 0", b, k, got)
			}
		}
	}
}

// checkHalf tests promise 1 with integers of any size: the distance between q and n/d is at most one half, and q is even in a tie.
func checkHalf(t *testing.T, n, d int) {
	t.Helper()
	q := impl.Half(n, d)
	twice := new(big.Int).Mul(big.NewInt(int64(q)), big.NewInt(int64(d)))
	twice.Sub(big.NewInt(int64(n)), twice)
	twice.Abs(twice)
	twice.Lsh(twice, 1)
	switch twice.Cmp(big.NewInt(int64(d))) {
	case 1:
		t.Fatalf("Half(%d, %d) = %d, which is more than one half away", n, d, q)
	case 0:
		if q%2 != 0 {
			t.Fatalf("Half(%d, %d) = %d, which is odd in a tie", n, d, q)
		}
	}
}

func TestHalfTies(t *testing.T) {
	for _, c := range []struct{ n, d, want int }{
		{1, 2, 0}, {3, 2, 2}, {5, 2, 2}, {7, 2, 4}, {9, 2, 4}, {11, 2, 6}, {13, 2, 6},
		{2, 4, 0}, {6, 4, 2}, {10, 4, 2}, {14, 4, 4},
		{3, 6, 0}, {9, 6, 2}, {15, 6, 2}, {21, 6, 4},
		{5, 10, 0}, {15, 10, 2}, {25, 10, 2}, {35, 10, 4},
		{17, 34, 0}, {51, 34, 2}, {85, 34, 2}, {119, 34, 4},
		{999999999999997, 2, 499999999999998},
		{999999999999999, 2, 500000000000000},
		{500000000000000, impl.MaxInt, 0},
		{750000000000000, 500000000000000, 2},
		{999999999999999, 666666666666666, 2},
		{impl.MaxInt, 400000000000000, 2},
		{700000000000000, 200000000000000, 4},
	} {
		if got := impl.Half(c.n, c.d); got != c.want {
			t.Errorf("Half(%d, %d) = %d, want %d", c.n, c.d, got, c.want)
		}
	}
}

func TestHalfBesideTies(t *testing.T) {
	for _, c := range []struct{ n, d, want int }{
		{0, 1, 0}, {1, 1, 1}, {17, 1, 17}, {0, 17, 0}, {17, 17, 1},
		{1, 3, 0}, {2, 3, 1}, {4, 3, 1}, {5, 3, 2},
		{7, 4, 2}, {5, 4, 1}, {9, 4, 2}, {11, 4, 3},
		{8, 17, 0}, {9, 17, 1}, {25, 17, 1}, {26, 17, 2},
		{499999999999999, impl.MaxInt, 0},
		{500000000000001, impl.MaxInt, 1},
		{499999999999999, impl.MaxInt - 1, 0},
		{500000000000000, impl.MaxInt - 1, 1},
		{impl.MaxInt - 1, impl.MaxInt, 1},
		{impl.MaxInt, impl.MaxInt, 1},
		{impl.MaxInt, impl.MaxInt - 1, 1},
		{impl.MaxInt, 1, impl.MaxInt},
		{impl.MaxInt - 1, 1, impl.MaxInt - 1},
		{impl.MaxInt, 3, 333333333333333},
		{impl.MaxInt, 2, 500000000000000},
	} {
		if got := impl.Half(c.n, c.d); got != c.want {
			t.Errorf("Half(%d, %d) = %d, want %d", c.n, c.d, got, c.want)
		}
	}
}

func TestHalfChangesByAtMostOneHalf(t *testing.T) {
	for n := 0; n <= 400; n++ {
		for d := 1; d <= 100; d++ {
			checkHalf(t, n, d)
		}
	}
	l := edgeInts()
	for _, n := range l {
		for _, d := range l {
			if n >= 0 && n <= impl.MaxInt && d >= 1 && d <= impl.MaxInt {
				checkHalf(t, n, d)
			}
		}
	}
	for n := impl.MaxInt; n > 0; n -= n/7 + 1 {
		for d := impl.MaxInt; d > 0; d -= d/9 + 1 {
			checkHalf(t, n, d)
		}
	}
}

func TestHalfOutOfRange(t *testing.T) {
	for _, c := range [][2]int{
		{-1, 1}, {-1, 2}, {-3, 2}, {-17, 1}, {-impl.MaxInt, 1}, {math.MinInt, 1}, {math.MinInt, -1},
		{impl.MaxInt + 1, 1}, {impl.MaxInt + 1, 2}, {impl.MaxInt + 1, impl.MaxInt}, {math.MaxInt, 1}, {math.MaxInt, 2},
		{1, 0}, {0, 0}, {17, 0}, {impl.MaxInt, 0}, {5, -1}, {5, -2}, {-5, -2}, {17, math.MinInt},
		{impl.MaxInt, impl.MaxInt + 1}, {impl.MaxInt - 1, impl.MaxInt + 1}, {impl.MaxInt, math.MaxInt},
		{impl.MaxInt + 1, impl.MaxInt + 1}, {math.MaxInt, math.MaxInt}, {math.MinInt, math.MinInt}, {-1, 0}, {-1, impl.MaxInt + 1},
	} {
		if got := impl.Half(c[0], c[1]); got != 0 {
			t.Errorf("Half(%d, %d) = %d, want 0", c[0], c[1], got)
		}
	}
}

func TestBitsOf(t *testing.T) {
	for _, c := range []struct{ n, want int }{
		{0, 0}, {1, 1}, {2, 2}, {3, 2}, {4, 3}, {7, 3}, {8, 4}, {15, 4}, {16, 5}, {17, 5}, {18, 5},
		{65535, 16}, {65536, 17}, {131071, 17}, {131072, 18},
		{4294967295, 32}, {4294967296, 33},
		{562949953421311, 49}, {562949953421312, 50},
		{impl.MaxInt - 1, 50}, {impl.MaxInt, 50},
		{impl.MaxInt + 1, 0}, {1<<50 - 1, 0}, {1 << 50, 0}, {math.MaxInt, 0},
		{-1, 0}, {-2, 0}, {-17, 0}, {-impl.MaxInt, 0}, {math.MinInt, 0},
	} {
		if got := impl.BitsOf(c.n); got != c.want {
			t.Errorf("BitsOf(%d) = %d, want %d", c.n, got, c.want)
		}
	}
}

func TestBitsOfIsSmallest(t *testing.T) {
	l := edgeInts()
	for n := 0; n <= 5000; n++ {
		l = append(l, n)
	}
	for _, n := range l {
		want := 0
		if n >= 0 && n <= impl.MaxInt {
			for 1<<want <= n {
				want++
			}
		}
		if got := impl.BitsOf(n); got != want {
			t.Errorf("BitsOf(%d) = %d, want %d", n, got, want)
		}
	}
}

func TestDigits(t *testing.T) {
	for _, c := range []struct{ n, want int }{
		{0, 1}, {1, 1}, {-1, 1}, {9, 1}, {-9, 1}, {10, 2}, {-10, 2}, {17, 2}, {99, 2}, {100, 3}, {-120, 3},
		{impl.MaxInt - 1, 15}, {impl.MaxInt, 16}, {impl.MaxInt + 1, 16},
		{1 - impl.MaxInt, 15}, {-impl.MaxInt, 16}, {-impl.MaxInt - 1, 16},
		{99999999999999999, 17}, {100000000000000000, 18},
		{math.MaxInt, 19}, {math.MinInt, 19}, {math.MinInt + 1, 19},
	} {
		if got := impl.Digits(c.n); got != c.want {
			t.Errorf("Digits(%d) = %d, want %d", c.n, got, c.want)
		}
	}
	for _, n := range edgeInts() {
		want := len(strings.TrimPrefix(strconv.Itoa(n), "-"))
		if got := impl.Digits(n); got != want {
			t.Errorf("Digits(%d) = %d, want %d", n, got, want)
		}
	}
}
