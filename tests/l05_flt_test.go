package tests

import (
	"math"
	"math/big"
	"testing"

	"loop.example/g00502/impl"
)

// binary is m times 2 to the power of e, as a fraction of integers of any size.
func binary(m, e int) *big.Rat {
	power := new(big.Int).Lsh(big.NewInt(1), uint(max(e, -e)))
	r := new(big.Rat).SetInt64(int64(m))
	if e < 0 {
		return r.Quo(r, new(big.Rat).SetInt(power))
	}
	return r.Mul(r, new(big.Rat).SetInt(power))
}

// validFlt restates the definition of a valid Flt, with a product of any size.
func validFlt(f impl.Flt) bool {
	if f.M == 0 && f.E == 0 {
		return true
	}
	if f.M%2 == 0 || f.M < -65535 || f.M > 65535 || f.E < -16 {
		return false
	}
	if f.E <= 30 {
		return true
	}
	// With an M other than 0, no larger exponent is possible.
	return f.E <= 100 && binary(f.M, f.E-30).Cmp(binary(65535, 0)) <= 0 && binary(f.M, f.E-30).Cmp(binary(-65535, 0)) >= 0
}

// eachFlt visits every valid Flt.
func eachFlt(visit func(f impl.Flt)) {
	visit(impl.Flt{})
	for e := -16; e <= 45; e++ {
		for m := 1; m <= 65535 && (e <= 30 || m<<(e-30) <= 65535); m += 2 {
			visit(impl.Flt{M: m, E: e})
			visit(impl.Flt{M: -m, E: e})
		}
	}
}

// someFlts are valid numbers: those with few bits and those around the limits, with every exponent.
func someFlts() []impl.Flt {
	l := []impl.Flt{{}}
	for e := -16; e <= 45; e++ {
		for _, m := range []int{1, 3, 5, 7, 15, 17, 99, 255, 257, 999, 4095, 12345, 32765, 32767, 32769, 32771, 49151, 65531, 65533, 65535} {
			if f := (impl.Flt{M: m, E: e}); validFlt(f) {
				l = append(l, f, impl.Flt{M: -m, E: e})
			}
		}
	}
	return l
}

// invalidFlts break the conditions one by one, and some of them several.
func invalidFlts() []impl.Flt {
	l := []impl.Flt{
		{M: 65537}, {M: -65537}, {M: 65537, E: -16}, {M: 65537, E: 30}, {M: 131071, E: -1}, {M: impl.MaxInt - 1}, {M: math.MaxInt}, {M: -math.MaxInt}, {M: math.MinInt}, {M: 1<<32 + 1}, {M: 1<<32 + 1, E: 31},
		{M: 65535, E: 31}, {M: -65535, E: 31}, {M: 32769, E: 31}, {M: -32769, E: 31}, {M: 16385, E: 32}, {M: -16385, E: 32}, {M: 5, E: 44}, {M: 3, E: 45}, {M: -3, E: 45}, {M: 1, E: 46}, {M: -1, E: 46},
	}
	for _, m := range []int{2, -2, 4, 10, -12, 256, 32768, 65534, -65534, 65536, 1 << 40} {
		for _, e := range []int{-16, -1, 0, 1, 30, 31, 46} {
			l = append(l, impl.Flt{M: m, E: e})
		}
	}
	for _, e := range []int{-100, -17, -16, -1, 1, 2, 30, 31, 46, 100, math.MaxInt, math.MinInt} {
		l = append(l, impl.Flt{E: e})
	}
	// With a product or a power that wraps around, many of these would be in the range.
	for _, e := range []int{-17, -18, -32, -100, 47, 62, 63, 77, 92, 93, 94, 95, 100, 158, 1 << 16, 1 << 32, 1<<32 + 30, math.MaxInt, math.MaxInt - 1, math.MinInt, math.MinInt + 29, math.MinInt + 30} {
		l = append(l, impl.Flt{M: 1, E: e}, impl.Flt{M: -1, E: e}, impl.Flt{M: 3, E: e}, impl.Flt{M: 65535, E: e})
	}
	return l
}

// nearestTo restates the rounding: of the two neighbours of d with 16 bits, it takes the nearer one, or in a tie the even one.
func nearestTo(d impl.Dec) (impl.Flt, bool) {
	if !validDec(d) {
		return impl.Flt{}, false
	}
	number := decimal(d.N, d.X)
	size := new(big.Rat).Abs(number)
	e := -16
	for size.Cmp(binary(65536, e)) >= 0 {
		e++
	}
	quotient := new(big.Rat).Quo(size, binary(1, e))
	m := int(new(big.Int).Quo(quotient.Num(), quotient.Denom()).Int64())
	below := new(big.Rat).Sub(size, binary(m, e))
	above := new(big.Rat).Sub(binary(m+1, e), size)
	if c := above.Cmp(below); c < 0 || c == 0 && m%2 == 1 {
		m++
	}
	for m != 0 && m%2 == 0 {
		m, e = m/2, e+1
	}
	f := impl.Flt{M: m * number.Sign(), E: e}
	if m == 0 {
		f = impl.Flt{}
	}
	if !validFlt(f) {
		return impl.Flt{}, false
	}
	return f, true
}

func TestFltConstants(t *testing.T) {
	if impl.MaxMan != 65535 || impl.LeastTwo != -16 || impl.MostTwo != 30 {
		t.Error("a constant of chapter 5 has another value")
	}
}

func TestFltOk(t *testing.T) {
	eachFlt(func(f impl.Flt) {
		if !impl.FltOk(f) {
			t.Fatalf("FltOk(%v) = false", f)
		}
	})
	for _, f := range []impl.Flt{{M: 1, E: -16}, {M: -1, E: -16}, {M: 65535, E: -16}, {M: 65535, E: 30}, {M: -65535, E: 30}, {M: 32767, E: 31}, {M: -32767, E: 31}, {M: 16383, E: 32}, {M: 3, E: 44}, {M: 1, E: 45}, {M: -1, E: 45}} {
		if !impl.FltOk(f) {
			t.Errorf("FltOk(%v) = false", f)
		}
	}
	for _, f := range invalidFlts() {
		if impl.FltOk(f) {
			t.Errorf("FltOk(%v) = true", f)
		}
	}
	for e := -70; e <= 130; e++ {
		for m := -300; m <= 300; m++ {
			if f := (impl.Flt{M: m, E: e}); impl.FltOk(f) != validFlt(f) {
				t.Errorf("FltOk(%v) = %t", f, !validFlt(f))
			}
		}
		for _, m := range edgeInts() {
			if f := (impl.Flt{M: m, E: e}); impl.FltOk(f) != validFlt(f) {
				t.Errorf("FltOk(%v) = %t", f, !validFlt(f))
			}
		}
	}
}

// TestFltNearestToItself holds promise 5 for every floating-point number there is.
func TestFltNearestToItself(t *testing.T) {
	eachFlt(func(f impl.Flt) {
		d := impl.FltDec(f)
		if got, ok := impl.NearFlt(d); got != f || !ok {
			t.Fatalf("NearFlt(FltDec(%v)) = %v, %t", f, got, ok)
		}
		if !impl.Exact(d) {
			t.Fatalf("Exact(FltDec(%v)) = false", f)
		}
		if got, ok := impl.FltNew(f.M, f.E); got != f || !ok {
			t.Fatalf("FltNew(%d, %d) = %v, %t", f.M, f.E, got, ok)
		}
	})
}

func TestFltDec(t *testing.T) {
	for _, c := range []struct {
		f    impl.Flt
		want impl.Dec
	}{
		{impl.Flt{}, impl.Dec{}}, {impl.Flt{M: 1}, impl.Dec{N: 1}}, {impl.Flt{M: -7}, impl.Dec{N: -7}}, {impl.Flt{M: 5, E: 1}, impl.Dec{N: 10}}, {impl.Flt{M: -25, E: 2}, impl.Dec{N: -100}},
		{impl.Flt{M: 1, E: -1}, impl.Dec{N: 5, X: -1}}, {impl.Flt{M: -3, E: -1}, impl.Dec{N: -15, X: -1}}, {impl.Flt{M: 1, E: -2}, impl.Dec{N: 25, X: -2}}, {impl.Flt{M: 5, E: -1}, impl.Dec{N: 25, X: -1}}, {impl.Flt{M: 125, E: -3}, impl.Dec{N: 15625, X: -3}},
		{impl.Flt{M: 1, E: -16}, impl.Dec{N: 152587890625, X: -16}}, {impl.Flt{M: -1, E: -16}, impl.Dec{N: -152587890625, X: -16}}, {impl.Flt{M: 65535, E: -16}, impl.Dec{N: 9999847412109375, X: -16}},
		{impl.Flt{M: 65535, E: 30}, impl.Dec{N: 70367670435840}}, {impl.Flt{M: -65535, E: 30}, impl.Dec{N: -70367670435840}}, {impl.Flt{M: 1, E: 45}, impl.Dec{N: 35184372088832}},
	} {
		if got := impl.FltDec(c.f); got != c.want {
			t.Errorf("FltDec(%v) = %v, want %v", c.f, got, c.want)
		}
	}
	for _, f := range someFlts() {
		d := impl.FltDec(f)
		if !validDec(d) || decimal(d.N, d.X).Cmp(binary(f.M, f.E)) != 0 {
			t.Errorf("FltDec(%v) = %v, which is not the same number", f, d)
		}
	}
	for _, f := range invalidFlts() {
		if got := impl.FltDec(f); got != (impl.Dec{}) {
			t.Errorf("FltDec(%v) = %v, want {0 0}", f, got)
		}
	}
}

// TestFltOnce checks that no two valid numbers are equal.
func TestFltOnce(t *testing.T) {
	seen := map[impl.Dec]impl.Flt{}
	for m := -1025; m <= 1025; m++ {
		for e := -20; e <= 50; e++ {
			f := impl.Flt{M: m, E: e}
			if !impl.FltOk(f) {
				continue
			}
			d := impl.FltDec(f)
			if other, known := seen[d]; known {
				t.Fatalf("%v and %v are both %v", f, other, d)
			}
			seen[d] = f
		}
	}
}

func TestNearFlt(t *testing.T) {
	for _, c := range []struct {
		d    impl.Dec
		want impl.Flt
	}{
		{impl.Dec{}, impl.Flt{}}, {impl.Dec{N: 1}, impl.Flt{M: 1}}, {impl.Dec{N: -1}, impl.Flt{M: -1}}, {impl.Dec{N: 12}, impl.Flt{M: 3, E: 2}}, {impl.Dec{N: 15, X: -1}, impl.Flt{M: 3, E: -1}}, {impl.Dec{N: -5, X: -1}, impl.Flt{M: -1, E: -1}},
		{impl.Dec{N: 1, X: -1}, impl.Flt{M: 3277, E: -15}}, {impl.Dec{N: -1, X: -1}, impl.Flt{M: -3277, E: -15}}, {impl.Dec{N: 2, X: -1}, impl.Flt{M: 13107, E: -16}}, {impl.Dec{N: 314159, X: -5}, impl.Flt{M: 3217, E: -10}}, {impl.Dec{N: -1001, X: -3}, impl.Flt{M: -32801, E: -15}},
		{impl.Dec{N: 65535}, impl.Flt{M: 65535}}, {impl.Dec{N: 65536}, impl.Flt{M: 1, E: 16}}, {impl.Dec{N: 65538}, impl.Flt{M: 32769, E: 1}}, {impl.Dec{N: 1000000}, impl.Flt{M: 15625, E: 6}}, {impl.Dec{N: 123456789}, impl.Flt{M: 30141, E: 12}},
		// Near 0, the least exponent keeps the steps from becoming smaller.
		{impl.Dec{N: 1, X: -16}, impl.Flt{}}, {impl.Dec{N: -1, X: -16}, impl.Flt{}}, {impl.Dec{N: 76293945312, X: -16}, impl.Flt{}}, {impl.Dec{N: -76293945312, X: -16}, impl.Flt{}}, {impl.Dec{N: 76293945313, X: -16}, impl.Flt{M: 1, E: -16}}, {impl.Dec{N: -76293945313, X: -16}, impl.Flt{M: -1, E: -16}},
		{impl.Dec{N: 228881835937, X: -16}, impl.Flt{M: 1, E: -16}}, {impl.Dec{N: 228881835938, X: -16}, impl.Flt{M: 1, E: -15}}, {impl.Dec{N: 9999923706054687, X: -16}, impl.Flt{M: 65535, E: -16}}, {impl.Dec{N: 9999923706054688, X: -16}, impl.Flt{M: 1}}, {impl.Dec{N: 9999999999999999, X: -16}, impl.Flt{M: 1}},
		// All of the 17 digits count.
		{impl.Dec{N: 99999999999999999, X: -16}, impl.Flt{M: 5, E: 1}}, {impl.Dec{N: -12345678901234567, X: -16}, impl.Flt{M: -20227, E: -14}}, {impl.Dec{N: 65537000000000001, X: -12}, impl.Flt{M: 32769, E: 1}}, {impl.Dec{N: 65536999999999999, X: -12}, impl.Flt{M: 1, E: 16}}, {impl.Dec{N: 65538999999999999, X: -12}, impl.Flt{M: 32769, E: 1}},
		// Less than half a step above the largest number.
		{impl.Dec{N: 70367670435840}, impl.Flt{M: 65535, E: 30}}, {impl.Dec{N: -70367670435840}, impl.Flt{M: -65535, E: 30}}, {impl.Dec{N: 70367670435840001, X: -3}, impl.Flt{M: 65535, E: 30}}, {impl.Dec{N: 70368207306751}, impl.Flt{M: 65535, E: 30}}, {impl.Dec{N: -70368207306751}, impl.Flt{M: -65535, E: 30}}, {impl.Dec{N: 70368207306751999, X: -3}, impl.Flt{M: 65535, E: 30}},
	} {
		if got, ok := impl.NearFlt(c.d); got != c.want || !ok {
			t.Errorf("NearFlt(%v) = %v, %t, want %v, true", c.d, got, ok, c.want)
		}
	}
}

func TestNearFltTies(t *testing.T) {
	for _, c := range []struct {
		d    impl.Dec
		want impl.Flt
	}{
		// Between 32768 and 65536 the steps are 1.
		{impl.Dec{N: 327685, X: -1}, impl.Flt{M: 1, E: 15}}, {impl.Dec{N: 327695, X: -1}, impl.Flt{M: 16385, E: 1}}, {impl.Dec{N: 655335, X: -1}, impl.Flt{M: 32767, E: 1}}, {impl.Dec{N: 655345, X: -1}, impl.Flt{M: 32767, E: 1}},
		// The even one of 65535 and 65536 is 65536, which has the m 32768; further up the steps are 2.
		{impl.Dec{N: 655355, X: -1}, impl.Flt{M: 1, E: 16}}, {impl.Dec{N: -655355, X: -1}, impl.Flt{M: -1, E: 16}}, {impl.Dec{N: 65537}, impl.Flt{M: 1, E: 16}}, {impl.Dec{N: -65537}, impl.Flt{M: -1, E: 16}}, {impl.Dec{N: 65539}, impl.Flt{M: 16385, E: 2}}, {impl.Dec{N: -65539}, impl.Flt{M: -16385, E: 2}}, {impl.Dec{N: 65541}, impl.Flt{M: 16385, E: 2}}, {impl.Dec{N: 65543}, impl.Flt{M: 8193, E: 3}},
		{impl.Dec{N: 131069}, impl.Flt{M: 32767, E: 2}}, {impl.Dec{N: 131071}, impl.Flt{M: 1, E: 17}}, {impl.Dec{N: -131071}, impl.Flt{M: -1, E: 17}}, {impl.Dec{N: 131074}, impl.Flt{M: 1, E: 17}}, {impl.Dec{N: 131078}, impl.Flt{M: 16385, E: 3}},
		// The finest ties have 16 digits after the point; below 1 there is none.
		{impl.Dec{N: 10000152587890625, X: -16}, impl.Flt{M: 1}}, {impl.Dec{N: -10000152587890625, X: -16}, impl.Flt{M: -1}}, {impl.Dec{N: 10000457763671875, X: -16}, impl.Flt{M: 16385, E: -14}}, {impl.Dec{N: 19999847412109375, X: -16}, impl.Flt{M: 1, E: 1}}, {impl.Dec{N: -19999847412109375, X: -16}, impl.Flt{M: -1, E: 1}},
		// The smallest differences from a tie decide.
		{impl.Dec{N: 10000152587890624, X: -16}, impl.Flt{M: 1}}, {impl.Dec{N: 10000152587890626, X: -16}, impl.Flt{M: 32769, E: -15}}, {impl.Dec{N: 19999847412109374, X: -16}, impl.Flt{M: 65535, E: -15}}, {impl.Dec{N: 19999847412109376, X: -16}, impl.Flt{M: 1, E: 1}},
		// The coarsest ties.
		{impl.Dec{N: 70367133564928}, impl.Flt{M: 32767, E: 31}}, {impl.Dec{N: -70367133564928}, impl.Flt{M: -32767, E: 31}}, {impl.Dec{N: 35184908959744}, impl.Flt{M: 1, E: 45}}, {impl.Dec{N: -35185982701568}, impl.Flt{M: -16385, E: 31}}, {impl.Dec{N: 35184103653376}, impl.Flt{M: 1, E: 45}}, {impl.Dec{N: 35183566782464}, impl.Flt{M: 32767, E: 30}},
	} {
		if got, ok := impl.NearFlt(c.d); got != c.want || !ok {
			t.Errorf("NearFlt(%v) = %v, %t, want %v, true", c.d, got, ok, c.want)
		}
	}
}

func TestNearFltFails(t *testing.T) {
	l := []impl.Dec{
		// Halfway from the largest number to 2 to the power of 46, the latter is the even one.
		{N: 70368207306752}, {N: -70368207306752}, {N: 703682073067521, X: -1}, {N: 70368207306752001, X: -3}, {N: -70368207306752001, X: -3},
		{N: 70368744177664}, {N: -70368744177664}, {N: 70368744177665}, {N: 140737488355328}, {N: 99999999999999}, {N: 999999999999999}, {N: impl.MaxInt}, {N: -impl.MaxInt},
		{N: 99999999999999999, X: -1}, {N: -99999999999999999, X: -1}, {N: 99999999999999999, X: -2}, {N: 10000000000000001, X: -1}, {N: 72057594037927937, X: -1}, {N: 92233720368547759, X: -1},
	}
	for _, d := range append(l, invalidDecs()...) {
		if got, ok := impl.NearFlt(d); got != (impl.Flt{}) || ok {
			t.Errorf("NearFlt(%v) = %v, %t, want {0 0}, false", d, got, ok)
		}
		if impl.Exact(d) {
			t.Errorf("Exact(%v) = true", d)
		}
	}
}

// checkNearFlt holds the rounding of one number against the definition.
func checkNearFlt(t *testing.T, d impl.Dec) {
	t.Helper()
	want, exists := nearestTo(d)
	if got, ok := impl.NearFlt(d); got != want || ok != exists {
		t.Errorf("NearFlt(%v) = %v, %t, want %v, %t", d, got, ok, want, exists)
	}
	same := exists && decimal(d.N, d.X).Cmp(binary(want.M, want.E)) == 0
	if got := impl.Exact(d); got != same {
		t.Errorf("Exact(%v) = %t", d, got)
	}
}

func TestNearFltTakesTheNearest(t *testing.T) {
	for _, d := range validDecs() {
		checkNearFlt(t, d)
	}
	for n := -70000; n <= 70000; n += 7 {
		for _, x := range []int{0, -1, -3, -9, -16} {
			checkNearFlt(t, impl.Dec{N: n, X: x})
		}
	}
	for _, n := range edgeInts() {
		for x := -17; x <= 1; x++ {
			checkNearFlt(t, impl.Dec{N: n, X: x})
		}
	}
	for n := 99999999999999999; n > 0; n -= n/19 + 1 {
		for x := -16; x <= 0; x++ {
			checkNearFlt(t, impl.Dec{N: n, X: x})
			checkNearFlt(t, impl.Dec{N: -n, X: x})
		}
	}
}

// TestNearFltBetweenNeighbours tries m and a half times powers of 2, and the decimals beside: for an m of 16 bits, a point halfway between two numbers.
func TestNearFltBetweenNeighbours(t *testing.T) {
	halves := 0
	for _, m := range []int{0, 1, 2, 3, 255, 32767, 32768, 32769, 32770, 43690, 43691, 65533, 65534, 65535} {
		for e := -16; e <= 31; e++ {
			half := binary(2*m+1, e-1)
			for places := 0; places <= 16; places++ {
				scaled := new(big.Rat).Mul(half, decimal(1, places))
				below := new(big.Int).Quo(scaled.Num(), scaled.Denom())
				if !below.IsInt64() {
					continue
				}
				n := int(below.Int64())
				for _, near := range []int{n - 1, n, n + 1} {
					checkNearFlt(t, impl.Dec{N: near, X: -places})
					checkNearFlt(t, impl.Dec{N: -near, X: -places})
				}
				if scaled.IsInt() && validDec(impl.Dec{N: n, X: -places}) {
					halves++
				}
			}
		}
	}
	// The exponent -16 has no decimal halfway, since it would need 17 places; the 47 others have one for each m.
	if halves != 14*47 {
		t.Errorf("%d points were halfway", halves)
	}
}

func TestExact(t *testing.T) {
	for _, d := range []impl.Dec{{}, {N: 1}, {N: -17}, {N: 65535}, {N: 65536}, {N: -65538}, {N: 15, X: -1}, {N: -25, X: -2}, {N: 152587890625, X: -16}, {N: 9999847412109375, X: -16}, {N: 70367670435840}} {
		if !impl.Exact(d) {
			t.Errorf("Exact(%v) = false", d)
		}
	}
	for _, d := range []impl.Dec{
		{N: 1, X: -1}, {N: -1, X: -1}, {N: 65537}, {N: -65537}, {N: 655355, X: -1}, {N: 1, X: -16}, {N: 152587890624, X: -16}, {N: 9999999999999999, X: -16}, {N: 70367670435841}, {N: 70368744177664}, {N: impl.MaxInt},
		// Invalid, although the numbers have a Flt.
		{N: 10, X: -1}, {X: -1}, {X: 1}, {N: 1, X: 1}, {N: 250, X: -3},
	} {
		if impl.Exact(d) {
			t.Errorf("Exact(%v) = true", d)
		}
	}
}

func TestFltText(t *testing.T) {
	for _, c := range []struct {
		f    impl.Flt
		want string
	}{
		{impl.Flt{}, "0"}, {impl.Flt{M: 1}, "1"}, {impl.Flt{M: -3, E: 2}, "-12"}, {impl.Flt{M: 3, E: -1}, "1.5"}, {impl.Flt{M: -1, E: -2}, "-0.25"}, {impl.Flt{M: 3277, E: -15}, "0.100006103515625"},
		{impl.Flt{M: 1, E: -16}, "0.0000152587890625"}, {impl.Flt{M: -65535, E: -16}, "-0.9999847412109375"}, {impl.Flt{M: 65535, E: 30}, "70367670435840"}, {impl.Flt{M: -1, E: 45}, "-35184372088832"},
	} {
		if got := impl.FltText(c.f); got != c.want {
			t.Errorf("FltText(%v) = %q, want %q", c.f, got, c.want)
		}
	}
	for _, f := range someFlts() {
		// A place more than there are twos below the point would add a 0.
		want := binary(f.M, f.E).FloatString(max(0, -f.E))
		if got := impl.FltText(f); got != want {
			t.Errorf("FltText(%v) = %q, want %q", f, got, want)
		}
	}
	for _, f := range invalidFlts() {
		if got := impl.FltText(f); got != "" {
			t.Errorf("FltText(%v) = %q, want nothing", f, got)
		}
	}
}

func TestLessFlt(t *testing.T) {
	valid := someFlts()
	numbers := []*big.Rat{}
	for _, f := range valid {
		numbers = append(numbers, binary(f.M, f.E))
	}
	for i, a := range valid {
		for j, b := range valid {
			want := numbers[i].Cmp(numbers[j]) < 0
			if got := impl.LessFlt(a, b); got != want {
				t.Fatalf("LessFlt(%v, %v) = %t", a, b, got)
			}
		}
	}
	for _, a := range invalidFlts() {
		for _, b := range append([]impl.Flt{{}, {M: 1}, {M: -1}, {M: 65535, E: 30}, {M: -65535, E: 30}}, invalidFlts()...) {
			if impl.LessFlt(a, b) || impl.LessFlt(b, a) {
				t.Errorf("LessFlt of %v and %v = true, but the first is not valid", a, b)
			}
		}
	}
}

func TestFltNew(t *testing.T) {
	for _, c := range []struct {
		m, e int
		want impl.Flt
	}{
		{0, 0, impl.Flt{}}, {0, 5, impl.Flt{}}, {0, -17, impl.Flt{}}, {0, 46, impl.Flt{}}, {0, 100, impl.Flt{}}, {0, -100, impl.Flt{}},
		{7, 0, impl.Flt{M: 7}}, {12, -1, impl.Flt{M: 3, E: 1}}, {-12, -1, impl.Flt{M: -3, E: 1}}, {12, -2, impl.Flt{M: 3}}, {-100, 3, impl.Flt{M: -25, E: 5}},
		{1, -16, impl.Flt{M: 1, E: -16}}, {2, -17, impl.Flt{M: 1, E: -16}}, {-65536, -32, impl.Flt{M: -1, E: -16}}, {131070, -17, impl.Flt{M: 65535, E: -16}},
		{1, 45, impl.Flt{M: 1, E: 45}}, {2, 44, impl.Flt{M: 1, E: 45}}, {-32768, 30, impl.Flt{M: -1, E: 45}}, {65535, 30, impl.Flt{M: 65535, E: 30}}, {-65534, 30, impl.Flt{M: -32767, E: 31}}, {131070, 29, impl.Flt{M: 65535, E: 30}},
		// Large integers with few bits, up to the last one below MaxInt.
		{70367670435840, 0, impl.Flt{M: 65535, E: 30}}, {562949953421312, -65, impl.Flt{M: 1, E: -16}}, {-562949953421312, -4, impl.Flt{M: -1, E: 45}}, {999988645593088, -50, impl.Flt{M: 58207, E: -16}}, {-999988645593088, -4, impl.Flt{M: -58207, E: 30}},
	} {
		if got, ok := impl.FltNew(c.m, c.e); got != c.want || !ok {
			t.Errorf("FltNew(%d, %d) = %v, %t, want %v, true", c.m, c.e, got, ok, c.want)
		}
	}
	for _, c := range [][2]int{
		// No valid Flt equals the number.
		{1, -17}, {-3, -17}, {6, -18}, {65536, -33}, {562949953421312, -66}, {999988645593088, -51}, {1, -100}, {562949953421312, -100}, {1, 46}, {2, 45}, {3, 45}, {65535, 31}, {-65536, 30}, {131070, 30}, {999988645593088, -3}, {1, 63}, {1, 64}, {1, 94}, {3, 94}, {1, 100}, {562949953421312, 100},
		{65537, 0}, {-65537, 0}, {131074, -1}, {100001, -3}, {impl.MaxInt, 0}, {-impl.MaxInt, -15}, {impl.MaxInt - 1, 0}, {impl.MaxInt, -31},
		// Integers above MaxInt, also with few bits.
		{1000005825462272, -34}, {-1000005825462272, -34}, {1125899906842624, -20}, {-1125899906842624, -50}, {1 << 62, -62}, {math.MinInt, -63}, {math.MinInt, -40}, {impl.MaxInt + 1, 0}, {math.MaxInt, 0},
		// Exponents outside of the range, also of 0.
		{0, 101}, {0, -101}, {1, 101}, {1, -101}, {562949953421312, -101}, {0, math.MaxInt}, {0, math.MinInt}, {1, math.MaxInt}, {2, math.MaxInt}, {1, math.MinInt}, {1, 1 << 32}, {1, 1<<32 - 1},
	} {
		if got, ok := impl.FltNew(c[0], c[1]); got != (impl.Flt{}) || ok {
			t.Errorf("FltNew(%d, %d) = %v, %t, want {0 0}, false", c[0], c[1], got, ok)
		}
	}
}

// checkFltNew searches the valid Flt that equals m times 2 to the power of e, exponent by exponent.
func checkFltNew(t *testing.T, m, e int) {
	t.Helper()
	want, found := impl.Flt{}, false
	if m >= -1000000000000000 && m <= 1000000000000000 && e >= -100 && e <= 100 {
		number := binary(m, e)
		for two := -16; two <= 45; two++ {
			whole := new(big.Rat).Mul(number, binary(1, -two))
			if !whole.IsInt() || !whole.Num().IsInt64() {
				continue
			}
			if f := (impl.Flt{M: int(whole.Num().Int64()), E: two}); validFlt(f) {
				want, found = f, true
			}
		}
	}
	if got, ok := impl.FltNew(m, e); got != want || ok != found {
		t.Errorf("FltNew(%d, %d) = %v, %t, want %v, %t", m, e, got, ok, want, found)
	}
}

func TestFltNewFindsEveryFlt(t *testing.T) {
	for m := -66; m <= 66; m++ {
		for e := -102; e <= 102; e++ {
			checkFltNew(t, m, e)
		}
	}
	for _, m := range edgeInts() {
		for _, e := range []int{-101, -100, -66, -65, -50, -34, -33, -32, -17, -16, -15, -1, 0, 1, 14, 15, 29, 30, 31, 44, 45, 46, 64, 100, 101} {
			checkFltNew(t, m, e)
		}
	}
	for _, f := range someFlts() {
		for m, e := f.M, f.E; m >= -impl.MaxInt && m <= impl.MaxInt && e >= -100; m, e = 2*m, e-1 {
			if got, ok := impl.FltNew(m, e); got != f || !ok {
				t.Errorf("FltNew(%d, %d) = %v, %t, want %v, true", m, e, got, ok, f)
			}
		}
	}
}
