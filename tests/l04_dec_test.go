package tests

import (
	"math"
	"math/big"
	"regexp"
	"strconv"
	"strings"
	"testing"

	"loop.example/g00502/impl"
)

// decimal is n times 10 to the power of x, as a fraction of integers of any size.
func decimal(n, x int) *big.Rat {
	power := new(big.Int).Exp(big.NewInt(10), big.NewInt(int64(max(x, -x))), nil)
	r := new(big.Rat).SetInt64(int64(n))
	if x < 0 {
		return r.Quo(r, new(big.Rat).SetInt(power))
	}
	return r.Mul(r, new(big.Rat).SetInt(power))
}

// digitCount counts the digits of n in its text.
func digitCount(n int) int {
	return len(strings.TrimLeft(strconv.Itoa(n), "-"))
}

// validDec restates the definition of a valid Dec with the text of N.
func validDec(d impl.Dec) bool {
	if d.X == 0 {
		return -1000000000000000 <= d.N && d.N <= 1000000000000000
	}
	return -16 <= d.X && d.X <= -1 && digitCount(d.N) <= 17 && !strings.HasSuffix(strconv.Itoa(d.N), "0")
}

// validDecs are valid numbers: every one with few digits and places, and those at the edges.
func validDecs() []impl.Dec {
	l := []impl.Dec{}
	for n := -130; n <= 130; n++ {
		for x := -4; x <= 0; x++ {
			if x == 0 || n%10 != 0 {
				l = append(l, impl.Dec{N: n, X: x})
			}
		}
	}
	for _, n := range []int{1, 9, 11, 99, 999999999999999, 1000000000000001, 9999999999999999, 10000000000000001, 99999999999999998, 99999999999999999} {
		for _, x := range []int{-1, -2, -8, -14, -15, -16} {
			l = append(l, impl.Dec{N: n, X: x}, impl.Dec{N: -n, X: x})
		}
	}
	for _, n := range []int{999999999, 1000000000, 100000000000000, 999999999999999, 1000000000000000} {
		l = append(l, impl.Dec{N: n}, impl.Dec{N: -n})
	}
	return l
}

// invalidDecs break the conditions one by one, and some of them several.
func invalidDecs() []impl.Dec {
	l := []impl.Dec{
		{N: 1000000000000001}, {N: -1000000000000001}, {N: math.MaxInt}, {N: math.MinInt},
		{N: 100000000000000001, X: -1}, {N: -100000000000000001, X: -1}, {N: 999999999999999999, X: -16}, {N: math.MaxInt, X: -16}, {N: math.MinInt, X: -1},
		{N: 100000000000000000, X: -1}, {N: 99999999999999990, X: -1}, {N: 1234567890, X: -16},
	}
	for x := -16; x <= -1; x++ {
		l = append(l, impl.Dec{X: x}, impl.Dec{N: 10, X: x}, impl.Dec{N: -10, X: x}, impl.Dec{N: -1200, X: x})
	}
	for _, x := range []int{1, 2, 16, 17, -17, -18, -40, 41, math.MaxInt, math.MinInt, math.MinInt + 1, 1 << 32, 1<<32 - 1} {
		l = append(l, impl.Dec{X: x}, impl.Dec{N: 1, X: x}, impl.Dec{N: -5, X: x}, impl.Dec{N: 99999999999999999, X: x})
	}
	return l
}

func TestDecConstants(t *testing.T) {
	if impl.MaxDigs != 17 || impl.MaxPoint != 16 || impl.NuGood != 0 || impl.NuForm != 1 || impl.NuLimit != 2 {
		t.Error("a constant of chapter 4 has another value")
	}
}

func TestDecOk(t *testing.T) {
	for _, d := range validDecs() {
		if !impl.DecOk(d) {
			t.Errorf("DecOk(%v) = false", d)
		}
	}
	for _, d := range invalidDecs() {
		if impl.DecOk(d) {
			t.Errorf("DecOk(%v) = true", d)
		}
	}
	for n := -1100; n <= 1100; n++ {
		for x := -20; x <= 4; x++ {
			if d := (impl.Dec{N: n, X: x}); impl.DecOk(d) != validDec(d) {
				t.Errorf("DecOk(%v) = %t", d, !validDec(d))
			}
		}
	}
	for _, n := range edgeInts() {
		for x := -20; x <= 4; x++ {
			if d := (impl.Dec{N: n, X: x}); impl.DecOk(d) != validDec(d) {
				t.Errorf("DecOk(%v) = %t", d, !validDec(d))
			}
		}
	}
}

func TestDecNew(t *testing.T) {
	for _, c := range []struct {
		n, x int
		want impl.Dec
	}{
		{0, 0, impl.Dec{}}, {0, 40, impl.Dec{}}, {0, -40, impl.Dec{}}, {0, 1, impl.Dec{}}, {0, -1, impl.Dec{}},
		{15, 2, impl.Dec{N: 1500}}, {-15, 2, impl.Dec{N: -1500}}, {15, 0, impl.Dec{N: 15}}, {150, 0, impl.Dec{N: 150}},
		{-1500, -3, impl.Dec{N: -15, X: -1}}, {1500, -2, impl.Dec{N: 15}}, {1500, -1, impl.Dec{N: 150}}, {5, -1, impl.Dec{N: 5, X: -1}},
		{1, 15, impl.Dec{N: 1000000000000000}}, {-1, 15, impl.Dec{N: -1000000000000000}}, {10, 14, impl.Dec{N: 1000000000000000}}, {999999999999999, 0, impl.Dec{N: 999999999999999}},
		{10000000000000000, -1, impl.Dec{N: 1000000000000000}}, {10000000000000000, -32, impl.Dec{N: 1, X: -16}}, {-10000000000000000, -16, impl.Dec{N: -1}},
		{99999999999999999, -1, impl.Dec{N: 99999999999999999, X: -1}}, {-99999999999999999, -16, impl.Dec{N: -99999999999999999, X: -16}},
		{1, -16, impl.Dec{N: 1, X: -16}}, {10, -17, impl.Dec{N: 1, X: -16}}, {-1000, -19, impl.Dec{N: -1, X: -16}},
	} {
		if got, ok := impl.DecNew(c.n, c.x); got != c.want || !ok {
			t.Errorf("DecNew(%d, %d) = %v, %t, want %v, true", c.n, c.x, got, ok, c.want)
		}
	}
	for _, c := range [][2]int{
		// No valid Dec equals the number.
		{1, -17}, {-1, -17}, {1, 16}, {2, 15}, {-2, 15}, {1000000000000001, 0}, {-1000000000000001, 0}, {99999999999999999, 0}, {1, 17}, {1, 18}, {1, 19}, {1, 40}, {-1, 40}, {1, -40}, {10000000000000000, -33}, {10000000000000000, 0},
		// Products that wrap around into the range.
		{16, 16}, {32, 15}, {1024, 18}, {65536, 16}, {131072, 40}, {4294967296, 32}, {4294967296, 40}, {72057594037927936, 8}, {-72057594037927936, 40},
		// More than 17 digits, also if 17 digits would do without the zeros at the end.
		{100000000000000000, -1}, {100000000000000000, -17}, {-100000000000000000, -2}, {1000000000000000000, -18}, {math.MaxInt, -10}, {math.MinInt, -10}, {math.MinInt, 0}, {123456789012345678, -4},
		// Exponents outside of the range, also of 0.
		{0, 41}, {0, -41}, {1, 41}, {1, -41}, {10, -41}, {0, math.MaxInt}, {0, math.MinInt}, {1, math.MaxInt}, {1, math.MinInt}, {10, math.MaxInt}, {1, 1 << 32}, {1, 1<<32 - 1},
	} {
		if got, ok := impl.DecNew(c[0], c[1]); got != (impl.Dec{}) || ok {
			t.Errorf("DecNew(%d, %d) = %v, %t, want {0 0}, false", c[0], c[1], got, ok)
		}
	}
}

// checkDecNew searches the valid Dec that equals n times 10 to the power of x, place by place.
func checkDecNew(t *testing.T, n, x int) {
	t.Helper()
	want, found := impl.Dec{}, false
	if digitCount(n) <= 17 && x >= -40 && x <= 40 {
		number := decimal(n, x)
		for place := -16; place <= 0; place++ {
			whole := new(big.Rat).Mul(number, decimal(1, -place))
			if !whole.IsInt() || !whole.Num().IsInt64() {
				continue
			}
			if d := (impl.Dec{N: int(whole.Num().Int64()), X: place}); validDec(d) {
				want, found = d, true
			}
		}
	}
	if got, ok := impl.DecNew(n, x); got != want || ok != found {
		t.Errorf("DecNew(%d, %d) = %v, %t, want %v, %t", n, x, got, ok, want, found)
	}
}

func TestDecNewFindsEveryDec(t *testing.T) {
	for n := -121; n <= 121; n++ {
		for x := -42; x <= 42; x++ {
			checkDecNew(t, n, x)
		}
	}
	for _, n := range edgeInts() {
		for x := -42; x <= 42; x++ {
			checkDecNew(t, n, x)
		}
	}
	for zeros, n := 0, 1; zeros <= 17; zeros, n = zeros+1, 10*n {
		for x := -42; x <= 42; x++ {
			checkDecNew(t, n, x)
			checkDecNew(t, -n, x)
			checkDecNew(t, n-1, x)
			checkDecNew(t, n+1, x)
		}
	}
	for _, d := range validDecs() {
		for n, x := d.N, d.X; digitCount(n) <= 17 && x >= -40; n, x = 10*n, x-1 {
			if got, ok := impl.DecNew(n, x); got != d || !ok {
				t.Errorf("DecNew(%d, %d) = %v, %t, want %v, true", n, x, got, ok, d)
			}
		}
	}
}

func TestDecText(t *testing.T) {
	for _, c := range []struct {
		d    impl.Dec
		want string
	}{
		{impl.Dec{}, "0"}, {impl.Dec{N: 5}, "5"}, {impl.Dec{N: -70}, "-70"}, {impl.Dec{N: impl.MaxInt}, "1000000000000000"}, {impl.Dec{N: -impl.MaxInt}, "-1000000000000000"},
		{impl.Dec{N: -5, X: -2}, "-0.05"}, {impl.Dec{N: 5, X: -1}, "0.5"}, {impl.Dec{N: -5, X: -1}, "-0.5"}, {impl.Dec{N: 15, X: -1}, "1.5"}, {impl.Dec{N: -15, X: -1}, "-1.5"},
		{impl.Dec{N: 15, X: -2}, "0.15"}, {impl.Dec{N: -15, X: -2}, "-0.15"}, {impl.Dec{N: 101, X: -2}, "1.01"}, {impl.Dec{N: 1001, X: -2}, "10.01"}, {impl.Dec{N: 15, X: -3}, "0.015"},
		{impl.Dec{N: 1, X: -16}, "0.0000000000000001"}, {impl.Dec{N: -1, X: -16}, "-0.0000000000000001"},
		{impl.Dec{N: 1234567890123456, X: -16}, "0.1234567890123456"}, {impl.Dec{N: 12345678901234567, X: -16}, "1.2345678901234567"},
		{impl.Dec{N: -99999999999999999, X: -16}, "-9.9999999999999999"}, {impl.Dec{N: 99999999999999999, X: -1}, "9999999999999999.9"},
	} {
		if got := impl.DecText(c.d); got != c.want {
			t.Errorf("DecText(%v) = %q, want %q", c.d, got, c.want)
		}
	}
	for _, d := range validDecs() {
		want := decimal(d.N, d.X).FloatString(-d.X)
		if got := impl.DecText(d); got != want {
			t.Errorf("DecText(%v) = %q, want %q", d, got, want)
		}
	}
	for _, d := range invalidDecs() {
		if got := impl.DecText(d); got != "" {
			t.Errorf("DecText(%v) = %q, want nothing", d, got)
		}
	}
}

func TestLessDec(t *testing.T) {
	valid := validDecs()
	numbers := []*big.Rat{}
	for _, d := range valid {
		numbers = append(numbers, decimal(d.N, d.X))
	}
	for i, a := range valid {
		for j, b := range valid {
			want := numbers[i].Cmp(numbers[j]) < 0
			if got := impl.LessDec(a, b); got != want {
				t.Fatalf("LessDec(%v, %v) = %t", a, b, got)
			}
		}
	}
	for _, a := range invalidDecs() {
		for _, b := range append([]impl.Dec{{}, {N: 1}, {N: -1}, {N: -impl.MaxInt}, {N: impl.MaxInt}, {N: 5, X: -1}}, invalidDecs()...) {
			if impl.LessDec(a, b) || impl.LessDec(b, a) {
				t.Errorf("LessDec of %v and %v = true, but the first is not valid", a, b)
			}
		}
	}
}

// numberForm is the grammar of a JSON number with its parts: sign, digits before and after the point, exponent's sign and digits.
var numberForm = regexp.MustCompile(`^(-?)(0|[1-9][0-9]*)(?:\.([0-9]+))?(?:[eE]([+-]?)([0-9]+))?`)

// digitMissing are the texts that miss a digit; the parenthesis holds what stands before it.
var digitMissing = []*regexp.Regexp{
	regexp.MustCompile(`^()(?:[^0-9-]|$)`),
	regexp.MustCompile(`^(-)(?:[^0-9]|$)`),
	regexp.MustCompile(`^(-?(?:0|[1-9][0-9]*)\.)(?:[^0-9]|$)`),
	regexp.MustCompile(`^(-?(?:0|[1-9][0-9]*)(?:\.[0-9]+)?[eE])(?:[^0-9+-]|$)`),
	regexp.MustCompile(`^(-?(?:0|[1-9][0-9]*)(?:\.[0-9]+)?[eE][+-])(?:[^0-9]|$)`),
}

// readNumber parses the number at offset at with regular expressions.
func readNumber(s string, at int) (n, x, next, code int) {
	if at < 0 || at > len(s) {
		return 0, 0, at, 1
	}
	for _, form := range digitMissing {
		if before := form.FindStringSubmatch(s[at:]); before != nil {
			return 0, 0, at + len(before[1]), 1
		}
	}
	parts := numberForm.FindStringSubmatch(s[at:])
	next = at + len(parts[0])
	digits := strings.TrimLeft(parts[2]+parts[3], "0")
	if len(digits) > 17 || len(parts[5]) > 3 {
		return 0, 0, next, 2
	}
	n, _ = strconv.Atoi(parts[1] + "0" + digits)
	x, _ = strconv.Atoi(parts[4] + "0" + parts[5])
	return n, x - len(parts[3]), next, 0
}

// checkNumber holds promise 4 for one text: its number is the one that the grammar gives.
func checkNumber(t *testing.T, s string, at int) {
	t.Helper()
	wantN, wantX, wantNext, wantCode := readNumber(s, at)
	n, x, next, code := impl.ReadNumber(s, at)
	if n != wantN || x != wantX || next != wantNext || code != wantCode {
		t.Errorf("ReadNumber(%q, %d) = %d, %d, %d, %d, want %d, %d, %d, %d", s, at, n, x, next, code, wantN, wantX, wantNext, wantCode)
	}
}

func TestReadNumber(t *testing.T) {
	zeros := strings.Repeat("0", 1000)
	for _, c := range []struct {
		s                 string
		n, x, next, limit int
	}{
		{"0", 0, 0, 1, 0}, {"-0", 0, 0, 2, 0}, {"7", 7, 0, 1, 0}, {"-7", -7, 0, 2, 0}, {"120", 120, 0, 3, 0}, {"1234567890", 1234567890, 0, 10, 0},
		{"1.5", 15, -1, 3, 0}, {"-1.50", -150, -2, 5, 0}, {"-1.50e+2,", -150, 0, 8, 0}, {"1e2", 1, 2, 3, 0}, {"1E2", 1, 2, 3, 0}, {"1E-2", 1, -2, 4, 0}, {"2.50E-3]", 250, -5, 7, 0}, {"1e0", 1, 0, 3, 0}, {"1e-0", 1, 0, 4, 0},
		// What follows the longest number stays.
		{"1 ", 1, 0, 1, 0}, {"1,2", 1, 0, 1, 0}, {"1-2", 1, 0, 1, 0}, {"1.5.5", 15, -1, 3, 0}, {"1e2e3", 1, 2, 3, 0}, {"1e2.5", 1, 2, 3, 0}, {"12x", 12, 0, 2, 0}, {"1+1", 1, 0, 1, 0}, {"5\xff", 5, 0, 1, 0}, {"5\x00", 5, 0, 1, 0}, {"5٣", 5, 0, 1, 0},
		// A zero at the beginning is a number of its own.
		{"00", 0, 0, 1, 0}, {"01", 0, 0, 1, 0}, {"-01", 0, 0, 2, 0}, {"00.5", 0, 0, 1, 0}, {"01e5", 0, 0, 1, 0}, {"0123456789012345678", 0, 0, 1, 0},
		// Leading zeros do not count as digits, but as places.
		{"0.5", 5, -1, 3, 0}, {"0.05", 5, -2, 4, 0}, {"-0.05e1", -5, -1, 7, 0}, {"0.0", 0, -1, 3, 0}, {"-0.00", 0, -2, 5, 0}, {"0e7", 0, 7, 3, 0}, {"0.00000000000000000", 0, -17, 19, 0}, {"0.000000000000000000", 0, -18, 20, 0},
		{"0.00012345678901234567", 12345678901234567, -20, 22, 0}, {"0.0000000000000000000000000000000000001", 1, -37, 39, 0},
		{"0." + zeros, 0, -1000, 1002, 0}, {"0." + zeros + "1e999", 1, -2, 1007, 0}, {"-0." + zeros + "99999999999999999", -99999999999999999, -1017, 1020, 0},
		// Exactly 17 digits, and exactly 3 in the exponent.
		{"12345678901234567", 12345678901234567, 0, 17, 0}, {"-99999999999999999", -99999999999999999, 0, 18, 0}, {"1.2345678901234567e-100", 12345678901234567, -116, 23, 0}, {"10000000000000000", 10000000000000000, 0, 17, 0}, {"1.0000000000000000", 10000000000000000, -16, 18, 0},
		{"1e999", 1, 999, 5, 0}, {"1e-999", 1, -999, 6, 0}, {"1e+999", 1, 999, 6, 0}, {"1e001", 1, 1, 5, 0}, {"1e-010", 1, -10, 6, 0}, {"1.25e000", 125, -2, 8, 0},
		// More digits than that, wherever they stand.
		{"123456789012345678", 0, 0, 18, 2}, {"-123456789012345678,", 0, 0, 19, 2}, {"1.00000000000000000", 0, 0, 19, 2}, {"100000000000000000", 0, 0, 18, 2}, {"0.123456789012345678", 0, 0, 20, 2}, {"0.0123456789012345678e1", 0, 0, 23, 2}, {"12345678.0123456789e-5 ", 0, 0, 22, 2},
		{"9223372036854775808", 0, 0, 19, 2}, {"18446744073709551616", 0, 0, 20, 2}, {"18446744073709551617", 0, 0, 20, 2}, {"1" + zeros, 0, 0, 1001, 2}, {"1." + zeros + "e-5", 0, 0, 1005, 2}, {"0." + zeros + "123456789012345678", 0, 0, 1020, 2},
		{"1e1000", 0, 0, 6, 2}, {"1e-1000", 0, 0, 7, 2}, {"1e0001", 0, 0, 6, 2}, {"1e+0000", 0, 0, 7, 2}, {"0e1234", 0, 0, 6, 2}, {"1e18446744073709551617", 0, 0, 22, 2}, {"1.5E" + zeros + "]", 0, 0, 1004, 2}, {"123456789012345678e1234", 0, 0, 23, 2},
	} {
		for _, before := range []string{"", "-", "0", "1.5e", "ab\xff"} {
			at := len(before)
			n, x, next, code := impl.ReadNumber(before+c.s, at)
			if n != c.n || x != c.x || next != at+c.next || code != c.limit {
				t.Errorf("ReadNumber(%q, %d) = %d, %d, %d, %d, want %d, %d, %d, %d", before+c.s, at, n, x, next, code, c.n, c.x, at+c.next, c.limit)
			}
		}
	}
}

func TestReadNumberFormErrors(t *testing.T) {
	for _, c := range []struct {
		s    string
		next int
	}{
		{"", 0}, {"-", 1}, {"+", 0}, {"+1", 0}, {".5", 0}, {"-.5", 1}, {"--1", 1}, {"-+1", 1}, {" 1", 0}, {"- 1", 1}, {"e5", 0}, {"-e5", 1}, {"x", 0}, {"\xff", 0}, {"\x00", 0}, {"/", 0}, {":", 0}, {"٣", 0}, {"-x", 1}, {"Infinity", 0}, {"-Infinity", 1}, {"NaN", 0},
		{"1.", 2}, {"0.", 2}, {"-0.", 3}, {"12.", 3}, {"1..5", 2}, {"1.e5", 2}, {"1.-5", 2}, {"1. 5", 2}, {"1.x", 2}, {"0./", 2}, {"0.:", 2},
		{"1e", 2}, {"1E", 2}, {"0e", 2}, {"-0e", 3}, {"1e+", 3}, {"1e-", 3}, {"1.5e", 4}, {"1.5E-", 5}, {"1e+-5", 3}, {"1e--5", 3}, {"1ee5", 2}, {"1e.5", 2}, {"1e 5", 2}, {"1e+ 5", 3}, {"1e+x", 3}, {"1E:", 2},
		// A wrong form is told before a limit.
		{"123456789012345678.", 19}, {"123456789012345678e", 19}, {"1.23456789012345678e-", 21}, {"-123456789012345678.x", 20},
	} {
		for _, before := range []string{"", "-", "0", "1.5e", "ab\xff"} {
			at := len(before)
			n, x, next, code := impl.ReadNumber(before+c.s, at)
			if n != 0 || x != 0 || next != at+c.next || code != impl.NuForm {
				t.Errorf("ReadNumber(%q, %d) = %d, %d, %d, %d, want 0, 0, %d, %d", before+c.s, at, n, x, next, code, at+c.next, impl.NuForm)
			}
		}
	}
	for _, s := range []string{"", "1", "-1.5e3"} {
		for _, at := range []int{-1, -2, -len(s), len(s) + 1, len(s) + 2, 100, math.MaxInt, math.MinInt, math.MinInt + 1, 1 << 32} {
			if at >= 0 && at <= len(s) {
				continue
			}
			n, x, next, code := impl.ReadNumber(s, at)
			if n != 0 || x != 0 || next != at || code != impl.NuForm {
				t.Errorf("ReadNumber(%q, %d) = %d, %d, %d, %d, want 0, 0, %d, %d", s, at, n, x, next, code, at, impl.NuForm)
			}
		}
	}
}

func TestReadNumberFollowsTheGrammar(t *testing.T) {
	for _, s := range texts("01.e-", 7) {
		checkNumber(t, s, 0)
	}
	for _, s := range texts("05.E+-x", 5) {
		for at := -1; at <= len(s)+1; at++ {
			checkNumber(t, s, at)
		}
	}
	for c := range 256 {
		for _, before := range []string{"", "-", "0", "1", "1.", "1.2", "1e", "1e+", "1e3"} {
			checkNumber(t, before+string([]byte{byte(c)}), 0)
			checkNumber(t, before+string([]byte{byte(c)})+"7", 0)
		}
	}
	for _, sign := range []string{"", "-"} {
		for _, whole := range []string{"0", "1", "9000", "12345678"} {
			for places := range 22 {
				for _, exponent := range []string{"", "e9", "E+12", "e-123", "e0123", "e", "e-"} {
					for _, digit := range []string{"0", "1"} {
						fraction := strings.Repeat("0", places) + digit
						checkNumber(t, sign+whole+"."+fraction+exponent, 0)
						checkNumber(t, sign+whole+"."+strings.Repeat(digit, places)+exponent, 0)
					}
				}
			}
		}
	}
}

// texts are all strings of at most n of the given bytes.
func texts(set string, n int) []string {
	l := []string{""}
	for start := 0; n > 0; n-- {
		end := len(l)
		for _, s := range l[start:end] {
			for _, c := range []byte(set) {
				l = append(l, s+string([]byte{c}))
			}
		}
		start = end
	}
	return l
}

func TestDecTextIsRead(t *testing.T) {
	for _, d := range validDecs() {
		s := impl.DecText(d)
		n, x, next, code := impl.ReadNumber(s, 0)
		if next != len(s) || code != impl.NuGood {
			t.Errorf("ReadNumber(%q, 0) = %d, %d, %d, %d", s, n, x, next, code)
		}
		if got, ok := impl.DecNew(n, x); got != d || !ok {
			t.Errorf("the number of %q is %v, %t, want %v, true", s, got, ok, d)
		}
	}
}
