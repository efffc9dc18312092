package tests

import (
	"cmp"
	"math"
	"math/rand"
	"slices"
	"strconv"
	"testing"

	"loop.example/g00502/impl"
)

// fltOf, decOf and bytesOf build values without the functions under test.
func fltOf(m, e int) impl.Val {
	return impl.Val{Kind: 4, N: m, X: e}
}

func decOf(n, x int) impl.Val {
	return impl.Val{Kind: 6, N: n, X: x}
}

func bytesOf(s string) impl.Val {
	return impl.Val{Kind: 8, S: s}
}

// compared restates the order of chapter 7, with fractions of any size.
func compared(a, b impl.Val) int {
	if a.Kind != b.Kind {
		return cmp.Compare(a.Kind, b.Kind)
	}
	number := cmp.Compare(a.N, b.N)
	if a.N == b.N {
		number = cmp.Compare(a.X, b.X)
	}
	if a.Kind == 4 && validFlt(impl.Flt{M: a.N, E: a.X}) && validFlt(impl.Flt{M: b.N, E: b.X}) {
		number = binary(a.N, a.X).Cmp(binary(b.N, b.X))
	}
	if a.Kind == 6 && validDec(impl.Dec{N: a.N, X: a.X}) && validDec(impl.Dec{N: b.N, X: b.X}) {
		number = decimal(a.N, a.X).Cmp(decimal(b.N, b.X))
	}
	if number != 0 {
		return number
	}
	if a.S != b.S {
		return cmp.Compare(a.S, b.S)
	}
	for i := range min(len(a.L), len(b.L)) {
		if c := compared(a.L[i], b.L[i]); c != 0 {
			return c
		}
	}
	return cmp.Compare(len(a.L), len(b.L))
}

// sortedPairs restates SortMap: it builds the result from nothing, pair by pair.
func sortedPairs(v impl.Val) impl.Val {
	if v.Kind != 10 || len(v.L)%2 == 1 {
		return v
	}
	done := []impl.Val{}
	for i := 0; i < len(v.L); i += 2 {
		at := len(done)
		for at > 0 && compared(v.L[i], done[at-2]) < 0 {
			at -= 2
		}
		done = slices.Insert(done, at, v.L[i], v.L[i+1])
	}
	v.L = done
	return v
}

// unlike leaves out trees that equal an earlier one.
func unlike(l []impl.Val) []impl.Val {
	seen := map[string]bool{}
	return slices.DeleteFunc(l, func(v impl.Val) bool {
		text := fieldsText(v)
		again := seen[text]
		seen[text] = true
		return again
	})
}

// unlikeTrees are different trees, valid and invalid ones, among them maps with names without a value.
func unlikeTrees() []impl.Val {
	return unlike(slices.Concat(validTrees(), invalidVals(), loadedNumbers(), slices.Concat(circles()...)))
}

// loadedNumbers are numbers with fields that their kind does not use.
func loadedNumbers() []impl.Val {
	l := []impl.Val{}
	for _, v := range []impl.Val{fltOf(3, -1), fltOf(1, 1), fltOf(2, 0), decOf(15, -1), decOf(2, 0), decOf(-1, -16), decOf(20, -1), intOf(5), {Kind: 2, N: 1}} {
		for _, s := range []string{"", "a", "\xff"} {
			for _, elements := range [][]impl.Val{nil, vals(nullVal()), vals(nullVal(), nullVal()), vals(textOf("a"))} {
				v.S, v.L = s, elements
				l = append(l, v)
			}
		}
	}
	return l
}

// circles are lists of values in which each is less than the next one, and the last one less than the first one.
func circles() [][]impl.Val {
	return [][]impl.Val{
		// 1.5 < 2 as numbers; 1 < 2 < 3 as the integers N, since {2, 0} is no valid Flt.
		{fltOf(3, -1), fltOf(1, 1), fltOf(2, 0)},
		{fltOf(5, -2), fltOf(3, -1), fltOf(1, 1), fltOf(2, 0), fltOf(4, 0)},
		{fltOf(-1, 1), fltOf(-3, -1), fltOf(-2, 0)},
		// 0.15 < 1.4 and 1.2345 < 2.1 as numbers; a positive exponent and a last digit 0 are not valid.
		{decOf(15, -2), decOf(14, -1), decOf(14, 1)},
		{decOf(12345, -4), decOf(21, -1), decOf(2000, -3)},
		// With X = 0 the Dec is valid, although the KDec is not.
		{decOf(25, -1), decOf(7, 0), decOf(20, -1)},
		{listOf(fltOf(3, -1)), listOf(fltOf(1, 1)), listOf(fltOf(2, 0))},
		{mapOf(textOf("a"), decOf(25, -1), nullVal()), mapOf(textOf("a"), decOf(7, 0)), mapOf(textOf("a"), decOf(20, -1))},
	}
}

// checkLess compares LessVal in both directions with the order of chapter 7.
func checkLess(t *testing.T, a, b impl.Val) {
	t.Helper()
	less, greater, want := impl.LessVal(a, b), impl.LessVal(b, a), compared(a, b)
	if less != (want < 0) || greater != (want > 0) {
		t.Errorf("LessVal(%s, %s) = %t, and %t the other way round", fieldsText(a), fieldsText(b), less, greater)
	}
}

// TestLessVal holds promise 7: of two different trees exactly one is less, also of invalid ones.
func TestLessVal(t *testing.T) {
	l := unlikeTrees()
	if len(l) < 800 {
		t.Fatalf("only %d trees", len(l))
	}
	for i, a := range l {
		for j, b := range l {
			less, greater := impl.LessVal(a, b), impl.LessVal(b, a)
			if i == j && (less || greater) {
				t.Fatalf("%s is less than itself", fieldsText(a))
			}
			if i != j && less == greater {
				t.Fatalf("LessVal(%s, %s) = %t in both directions", fieldsText(a), fieldsText(b), less)
			}
			if less != (compared(a, b) < 0) {
				t.Fatalf("LessVal(%s, %s) = %t", fieldsText(a), fieldsText(b), less)
			}
		}
		if b := deepCopy(a, []impl.Val{}); impl.LessVal(a, b) || impl.LessVal(b, a) {
			t.Errorf("%s is less or greater than its copy", fieldsText(a))
		}
	}
}

// TestLessValAtAnyDepth compares values within otherwise equal trees.
func TestLessValAtAnyDepth(t *testing.T) {
	l := unlikeTrees()
	for i, a := range l {
		b := l[(i*7+1)%len(l)]
		other := around(b)
		for k, x := range around(a) {
			less, greater := impl.LessVal(x, other[k]), impl.LessVal(other[k], x)
			if want := compared(a, b); less != (want < 0) || greater != (want > 0) {
				t.Errorf("LessVal of tree %d around %s and %s = %t, and %t the other way round", k, fieldsText(a), fieldsText(b), less, greater)
			}
			checkLess(t, x, a)
		}
	}
}

// TestLessValAscending has a list of values in the order that the document describes.
func TestLessValAscending(t *testing.T) {
	null, a := nullVal(), textOf("a")
	l := []impl.Val{
		{Kind: math.MinInt}, {Kind: -1, N: 9}, {}, {L: vals(null)}, {S: "a"}, {N: 1},
		null, {Kind: 1, L: vals(null)}, {Kind: 1, S: "\x00"}, {Kind: 1, X: 1}, {Kind: 1, N: 1},
		{Kind: 2}, {Kind: 2, N: 1}, {Kind: 2, N: 2},
		intOf(math.MinInt), intOf(-impl.MaxInt), intOf(-10), intOf(-9), {Kind: 3, X: -1}, intOf(0), {Kind: 3, X: 1}, intOf(9), intOf(10), intOf(impl.MaxInt), intOf(math.MaxInt),
		// Floating-point numbers are in the order of the numbers, and not of their fields.
		fltOf(-65535, 30), fltOf(-1, 45), fltOf(-1, 1), fltOf(-3, -1), fltOf(-1, 0), fltOf(-1, -1), fltOf(-1, -16), fltOf(0, 0), fltOf(1, -16), fltOf(65535, -16), fltOf(1, 0), fltOf(5, -2), fltOf(3, -1), fltOf(1, 1), fltOf(5, -1), fltOf(3, 0), fltOf(65535, 0), fltOf(1, 16), fltOf(1, 45), fltOf(65535, 30),
		{Kind: 5}, {Kind: 5, N: 1}, {Kind: 5, N: 2}, {Kind: 5, N: 3},
		decOf(-99999999999999999, -1), decOf(-impl.MaxInt, 0), decOf(-15, -1), decOf(-15, -2), decOf(-1, -1), decOf(-1, -16), decOf(0, 0), decOf(1, -16), decOf(99999999999999999, -16), decOf(123, -1), decOf(1235, -2), decOf(124, -1), decOf(13, 0), decOf(99999999999999999, -1),
		// Texts and byte strings are in the order of their bytes, not of their lengths.
		textOf(""), textOf("\x00"), textOf("A"), a, textOf("a\x00"), textOf("aa"), textOf("ab"), textOf("b"), textOf("é"), textOf("\uffff"), textOf("😀"), textOf("\xff"), {Kind: 7, N: 1},
		bytesOf(""), bytesOf("\x00"), bytesOf("a"), bytesOf("a\xff"), bytesOf("b"), bytesOf("\x80"), bytesOf("\xff"),
		// The first different elements decide, and the lengths only if there are none.
		listOf(), listOf(null), listOf(null, null), listOf(null, intOf(5)), listOf(intOf(1)), listOf(intOf(1), null, null), listOf(intOf(1), intOf(0)), listOf(intOf(2)), listOf(fltOf(3, -1), a), listOf(fltOf(1, 1)), listOf(a), listOf(listOf()), listOf(listOf(), null), listOf(listOf(null)), listOf(listOf(null), null), listOf(listOf(null, null)), listOf(listOf(a)), listOf(mapOf()), {Kind: 9, S: "a"}, {Kind: 9, N: 1},
		mapOf(), mapOf(null), mapOf(null, null), mapOf(null, null, null), mapOf(null, a), mapOf(a), mapOf(a, null), mapOf(a, null, a), mapOf(a, null, a, null), mapOf(a, null, a, a), mapOf(a, a), mapOf(textOf("b"), null), mapOf(mapOf(), null), mapOf(mapOf(null), null),
		{Kind: 11}, tagOf(0, null), tagOf(0, a), {Kind: 11, L: vals(a, null)}, tagOf(1, null), tagOf(2, null), tagOf(10, null), tagOf(impl.MaxInt, null),
		{Kind: 12}, {Kind: math.MaxInt},
	}
	for i, x := range l {
		for j, y := range l {
			if got := impl.LessVal(x, y); got != (i < j) {
				t.Errorf("LessVal(%s, %s) = %t", fieldsText(x), fieldsText(y), got)
			}
		}
	}
}

// TestLessValOfValidValuesIsAnOrder sorts the valid values, and then compares each with each.
func TestLessValOfValidValuesIsAnOrder(t *testing.T) {
	l := unlike(validTrees())
	slices.SortFunc(l, func(a, b impl.Val) int {
		if impl.LessVal(a, b) {
			return -1
		}
		return 1
	})
	for i, a := range l {
		for j, b := range l {
			if got := impl.LessVal(a, b); got != (i < j) {
				t.Fatalf("LessVal(%s, %s) = %t", fieldsText(a), fieldsText(b), got)
			}
		}
	}
}

func TestLessValOfNumbers(t *testing.T) {
	flts := append(someFlts(), invalidFlts()...)
	for i, f := range flts {
		for _, g := range flts[max(0, i-40) : i+1] {
			checkLess(t, fltOf(f.M, f.E), fltOf(g.M, g.E))
			checkLess(t, fltOf(f.M, f.E), decOf(g.M, g.E))
			checkLess(t, impl.Val{Kind: 11, N: f.M, X: f.E}, impl.Val{Kind: 11, N: g.M, X: g.E})
		}
	}
	decs := append(validDecs(), invalidDecs()...)
	for i, d := range decs {
		for _, e := range decs[max(0, i-40) : i+1] {
			checkLess(t, decOf(d.N, d.X), decOf(e.N, e.X))
			checkLess(t, intOf(d.N), decOf(e.N, e.X))
			checkLess(t, impl.Val{Kind: 3, N: d.N, X: d.X}, impl.Val{Kind: 3, N: e.N, X: e.X})
		}
	}
	random := rand.New(rand.NewSource(7))
	for range 20000 {
		f, g := flts[random.Intn(len(flts))], flts[random.Intn(len(flts))]
		checkLess(t, fltOf(f.M, f.E), fltOf(g.M, g.E))
		d, e := decs[random.Intn(len(decs))], decs[random.Intn(len(decs))]
		checkLess(t, decOf(d.N, d.X), decOf(e.N, e.X))
	}
}

// TestCircles checks that an invalid number is compared by its fields, also with a valid one.
func TestCircles(t *testing.T) {
	for _, l := range circles() {
		for i, a := range l {
			b := l[(i+1)%len(l)]
			if !impl.LessVal(a, b) || impl.LessVal(b, a) {
				t.Errorf("LessVal(%s, %s) = false", fieldsText(a), fieldsText(b))
			}
		}
	}
}

// TestLessValSeesEveryChange changes one field of one value at a time, also fields that the kind does not use.
func TestLessValSeesEveryChange(t *testing.T) {
	changes := []func(v *impl.Val){
		func(v *impl.Val) { v.Kind++ },
		func(v *impl.Val) { v.Kind -= 1 << 32 },
		func(v *impl.Val) { v.N++ },
		func(v *impl.Val) { v.N = -v.N - 1 },
		func(v *impl.Val) { v.X-- },
		func(v *impl.Val) { v.X += 1 << 32 },
		func(v *impl.Val) { v.S += "\x00" },
		func(v *impl.Val) { v.S = "\xff" + v.S },
		func(v *impl.Val) { v.L = append(v.L, impl.Val{}) },
		func(v *impl.Val) { v.L = append(vals(listOf()), v.L...) },
		func(v *impl.Val) { *v = listOf(*v) },
	}
	for _, v := range append(validTrees(), invalidVals()...) {
		for i := range placesIn(&v) {
			for _, change := range changes {
				tree := deepCopy(v, nil)
				change(placesIn(&tree)[i])
				checkLess(t, tree, v)
			}
		}
	}
}

// testMaps are maps with names of all kinds: different and equal ones, in and out of order, and a last one without a value.
func testMaps() []impl.Val {
	a, b := textOf("a"), textOf("b")
	names := vals(a, b, textOf("ab"), intOf(1), fltOf(3, -1), fltOf(1, 1), fltOf(2, 0), decOf(1, -1), listOf(), listOf(a), mapOf(a, b), mapOf(a), tagOf(1, a), bytesOf("a"), nullVal(), impl.Val{}, textOf("\xff"))
	l := []impl.Val{mapOf(), {Kind: 10, L: []impl.Val{}}, mapOf(a), mapOf(a, intOf(0), a), {Kind: 10, N: 3, X: 4, S: "s", L: vals(b, intOf(1), a, intOf(2))}}
	for _, x := range names {
		l = append(l, mapOf(x), mapOf(x, intOf(1)), mapOf(x, x))
		for _, y := range names {
			l = append(l, mapOf(x, intOf(1), y), mapOf(x, intOf(1), y, intOf(2)), mapOf(x, intOf(1), y, intOf(2), a, intOf(3)), mapOf(a, intOf(1), x, intOf(2), y, intOf(3), x, intOf(4)), mapOf(listOf(x, y), intOf(1), listOf(y, x), intOf(2), listOf(x), intOf(3)))
		}
	}
	random := rand.New(rand.NewSource(77))
	for range 300 {
		m := mapOf()
		for n := range random.Intn(90) {
			// Values tell the pairs with equal names apart.
			m.L = append(m.L, names[random.Intn(len(names))], intOf(n))
		}
		l = append(l, m, mapOf(m.L[:max(0, len(m.L)-1)]...))
	}
	return append(l, longMaps(random)...)
}

// longMaps have many different names, so many of which are in circles that every way of sorting has a result of its own.
func longMaps(random *rand.Rand) []impl.Val {
	l := []impl.Val{}
	for range 100 {
		valid, mixed := mapOf(), mapOf()
		for n := range 60 + random.Intn(60) {
			valid.L = append(valid.L, intOf(random.Intn(200)), intOf(n))
			m, e := random.Intn(60)-30, random.Intn(7)-3
			mixed.L = append(mixed.L, fltOf(m, e), intOf(n))
		}
		l = append(l, valid, mixed)
	}
	return l
}

// otherVals are no maps, although some contain pairs.
func otherVals() []impl.Val {
	pairs := vals(textOf("b"), intOf(1), textOf("a"), intOf(2), textOf("b"), intOf(3))
	l := append(validLeaves(), listOf(pairs...), tagOf(1, mapOf(pairs...)), listOf(mapOf(pairs...)), listOf(), impl.Val{Kind: 11, L: pairs}, impl.Val{L: pairs}, impl.Val{Kind: 7, S: "a", L: pairs}, impl.Val{Kind: 11, N: 10, L: pairs}, impl.Val{Kind: 12, L: pairs}, impl.Val{Kind: 10 + 1<<32, L: pairs}, impl.Val{Kind: -10, L: pairs})
	return slices.DeleteFunc(l, func(v impl.Val) bool { return v.Kind == 10 })
}

// checkVal compares all fields.
func checkVal(t *testing.T, call string, got, want impl.Val) {
	t.Helper()
	if fieldsText(got) != fieldsText(want) {
		t.Errorf("%s = %s, want %s", call, fieldsText(got), fieldsText(want))
	}
}

func TestSortMap(t *testing.T) {
	a, b, c := textOf("a"), textOf("b"), textOf("c")
	one, two, three, four := intOf(1), intOf(2), intOf(3), intOf(4)
	for _, x := range []struct{ v, want impl.Val }{
		{mapOf(), mapOf()}, {mapOf(a, one), mapOf(a, one)}, {mapOf(b, one, a, two), mapOf(a, two, b, one)}, {mapOf(c, one, a, two, b, three), mapOf(a, two, b, three, c, one)},
		// Pairs with equal names keep their order.
		{mapOf(a, two, a, one), mapOf(a, two, a, one)}, {mapOf(b, four, a, three, b, two, a, one), mapOf(a, three, a, one, b, four, b, two)}, {mapOf(b, b, a, a, b, a, a, b), mapOf(a, a, a, b, b, b, b, a)},
		// A name may be any value, and the maps within a map remain as they are.
		{mapOf(mapOf(b, one, a, two), mapOf(b, three, a, four), listOf(c), one), mapOf(listOf(c), one, mapOf(b, one, a, two), mapOf(b, three, a, four))},
		{mapOf(nullVal(), one, tagOf(1, a), two, intOf(7), three, a, four, bytesOf("a"), one), mapOf(nullVal(), one, intOf(7), three, a, four, bytesOf("a"), one, tagOf(1, a), two)},
		{mapOf(fltOf(1, 1), one, fltOf(3, -1), two), mapOf(fltOf(3, -1), two, fltOf(1, 1), one)},
		{mapOf(decOf(15, -1), one, decOf(150001, -5), two, decOf(149, -2), three), mapOf(decOf(149, -2), three, decOf(15, -1), one, decOf(150001, -5), two)},
		// A name without a value.
		{mapOf(b), mapOf(b)}, {mapOf(b, one, a), mapOf(b, one, a)}, {mapOf(c, one, b, two, a), mapOf(c, one, b, two, a)},
		// Names in a circle: 1.5 < 2, but {2, 0} is not valid and lies between the integers 1 and 3.
		{mapOf(fltOf(3, -1), one, fltOf(1, 1), two, fltOf(2, 0), three), mapOf(fltOf(3, -1), one, fltOf(1, 1), two, fltOf(2, 0), three)},
		{mapOf(fltOf(3, -1), one, fltOf(2, 0), two, fltOf(1, 1), three), mapOf(fltOf(2, 0), two, fltOf(3, -1), one, fltOf(1, 1), three)},
		{mapOf(fltOf(2, 0), one, fltOf(1, 1), two, fltOf(3, -1), three), mapOf(fltOf(1, 1), two, fltOf(2, 0), one, fltOf(3, -1), three)},
	} {
		checkVal(t, "SortMap("+fieldsText(x.v)+")", impl.SortMap(x.v), x.want)
	}
	for _, v := range testMaps() {
		checkVal(t, "SortMap("+fieldsText(v)+")", impl.SortMap(v), sortedPairs(v))
	}
	for _, v := range otherVals() {
		checkVal(t, "SortMap("+fieldsText(v)+")", impl.SortMap(v), v)
	}
	for _, v := range append(validTrees(), invalidVals()...) {
		for _, tree := range around(v) {
			checkVal(t, "SortMap", impl.SortMap(tree), sortedPairs(tree))
		}
	}
}

// TestSortMapIsStable gives every pair its number as its value.
func TestSortMapIsStable(t *testing.T) {
	names := validTrees()
	random := rand.New(rand.NewSource(777))
	for range 40 {
		type numbered struct {
			name impl.Val
			n    int
		}
		l, m := []numbered{}, mapOf()
		for n := range 300 {
			x := names[random.Intn(len(names))]
			l = append(l, numbered{x, n})
			m.L = append(m.L, x, intOf(n))
		}
		slices.SortStableFunc(l, func(a, b numbered) int { return compared(a.name, b.name) })
		want := mapOf()
		for _, x := range l {
			want.L = append(want.L, x.name, intOf(x.n))
		}
		checkVal(t, "SortMap of 300 pairs", impl.SortMap(m), want)
	}
}

func TestNamesOf(t *testing.T) {
	a, b, null := textOf("a"), textOf("b"), nullVal()
	for _, c := range []struct {
		v    impl.Val
		want []impl.Val
	}{
		{mapOf(), nil}, {mapOf(a, null), vals(a)}, {mapOf(b, null, a, null), vals(b, a)}, {mapOf(a, b, a, null), vals(a, a)},
		{mapOf(mapOf(a, b), listOf(a), impl.Val{}, null), vals(mapOf(a, b), impl.Val{})},
		// A last name without a value counts.
		{mapOf(a), vals(a)}, {mapOf(b, null, a), vals(b, a)}, {mapOf(a, null, a), vals(a, a)}, {mapOf(mapOf(a)), vals(mapOf(a))},
		{null, nil}, {impl.Val{}, nil}, {listOf(a, b), nil}, {tagOf(1, mapOf(a, b)), nil},
	} {
		checkVal(t, "NamesOf("+fieldsText(c.v)+")", listOf(impl.NamesOf(c.v)...), listOf(c.want...))
	}
	for _, v := range testMaps() {
		want := listOf()
		for i, x := range v.L {
			if i%2 == 0 {
				want.L = append(want.L, x)
			}
		}
		checkVal(t, "NamesOf("+fieldsText(v)+")", listOf(impl.NamesOf(v)...), want)
	}
	for _, v := range otherVals() {
		checkVal(t, "NamesOf("+fieldsText(v)+")", listOf(impl.NamesOf(v)...), listOf())
	}
}

// lookedUp restates Lookup: later pairs replace earlier ones.
func lookedUp(v, name impl.Val) (impl.Val, bool) {
	found, ok := impl.Val{}, false
	if v.Kind != 10 || len(v.L)%2 == 1 {
		return found, ok
	}
	for i := 0; i < len(v.L); i += 2 {
		if fieldsText(v.L[i]) == fieldsText(name) {
			found, ok = v.L[i+1], true
		}
	}
	return found, ok
}

func checkLookup(t *testing.T, v, name impl.Val) {
	t.Helper()
	got, ok := impl.Lookup(v, name)
	want, wantOk := lookedUp(v, name)
	if fieldsText(got) != fieldsText(want) || ok != wantOk {
		t.Errorf("Lookup(%s, %s) = %s, %t, want %s, %t", fieldsText(v), fieldsText(name), fieldsText(got), ok, fieldsText(want), wantOk)
	}
}

func TestLookup(t *testing.T) {
	a, b, null := textOf("a"), textOf("b"), nullVal()
	for _, c := range []struct {
		v, name, want impl.Val
		ok            bool
	}{
		{mapOf(a, b), a, b, true}, {mapOf(a, b), b, impl.Val{}, false}, {mapOf(a, null, b, a), b, a, true}, {mapOf(a, null, b, a), a, null, true},
		// The last pair with an equal name counts, wherever it is.
		{mapOf(a, intOf(1), a, intOf(2)), a, intOf(2), true}, {mapOf(a, intOf(1), b, intOf(2), a, intOf(3)), a, intOf(3), true}, {mapOf(a, intOf(1), a, intOf(2), b, intOf(3)), a, intOf(2), true}, {mapOf(a, intOf(9), a, intOf(1), a, intOf(5)), a, intOf(5), true},
		// The last pair counts also if its value is no valid one.
		{mapOf(a, b, a, impl.Val{}), a, impl.Val{}, true},
		{mapOf(), a, impl.Val{}, false}, {mapOf(), impl.Val{}, impl.Val{}, false},
		// A name without a value leaves nothing to be found.
		{mapOf(a), a, impl.Val{}, false}, {mapOf(a, null, b), a, impl.Val{}, false}, {mapOf(a, null, b), b, impl.Val{}, false}, {mapOf(a, null, a), a, impl.Val{}, false},
		{listOf(a, b), a, impl.Val{}, false}, {tagOf(1, mapOf(a, b)), a, impl.Val{}, false}, {a, a, impl.Val{}, false}, {impl.Val{L: vals(a, b)}, a, impl.Val{}, false},
		// Names are equal in all fields: a text is not a byte string, an integer not a floating-point number.
		{mapOf(a, null), bytesOf("a"), impl.Val{}, false}, {mapOf(intOf(1), null), fltOf(1, 0), impl.Val{}, false}, {mapOf(fltOf(1, 1), null), fltOf(2, 0), impl.Val{}, false}, {mapOf(decOf(5, -1), null), decOf(50, -2), impl.Val{}, false}, {mapOf(a, null), impl.Val{Kind: 7, S: "a", N: 1}, impl.Val{}, false},
		{mapOf(mapOf(a, b), a, mapOf(b, a), b), mapOf(a, b), a, true}, {mapOf(listOf(a), a, listOf(a, a), b), listOf(a), a, true}, {mapOf(listOf(a), a), listOf(), impl.Val{}, false}, {mapOf(impl.Val{}, a), impl.Val{}, a, true}, {mapOf(mapOf(a), b), mapOf(a), b, true}, {mapOf(textOf("\xff"), b), textOf("\xff"), b, true},
		// Values and inner names are not names.
		{mapOf(a, b, b, mapOf(null, null)), null, impl.Val{}, false},
	} {
		got, ok := impl.Lookup(c.v, c.name)
		if fieldsText(got) != fieldsText(c.want) || ok != c.ok {
			t.Errorf("Lookup(%s, %s) = %s, %t, want %s, %t", fieldsText(c.v), fieldsText(c.name), fieldsText(got), ok, fieldsText(c.want), c.ok)
		}
	}
	for _, v := range append(testMaps(), otherVals()...) {
		for i, x := range v.L {
			// In long maps, some of the names are enough.
			if i < 20 || i%9 == 0 {
				checkLookup(t, v, x)
			}
		}
		for _, x := range []impl.Val{a, null, {}, intOf(1), intOf(12345), mapOf(), v} {
			checkLookup(t, v, x)
		}
	}
}

// onceEach and ascending restate OnceEach and Sorted.
func onceEach(v impl.Val) bool {
	seen := map[string]bool{}
	for i := 0; i < len(v.L) && v.Kind == 10; i += 2 {
		if seen[fieldsText(v.L[i])] {
			return false
		}
		seen[fieldsText(v.L[i])] = true
	}
	return true
}

func ascending(v impl.Val) bool {
	for i := 2; i < len(v.L) && v.Kind == 10; i += 2 {
		if compared(v.L[i-2], v.L[i]) >= 0 {
			return false
		}
	}
	return true
}

func TestOnceEachAndSorted(t *testing.T) {
	a, b, c, null := textOf("a"), textOf("b"), textOf("c"), nullVal()
	for _, x := range []struct {
		v            impl.Val
		once, sorted bool
	}{
		{mapOf(), true, true}, {mapOf(a, null), true, true}, {mapOf(a, null, b, null), true, true}, {mapOf(b, null, a, null), true, false}, {mapOf(a, b, c, a), true, true},
		{mapOf(a, null, b, null, c, null), true, true}, {mapOf(a, null, c, null, b, null), true, false}, {mapOf(b, null, a, null, c, null), true, false},
		// Ascending means that equal names are not in order either.
		{mapOf(a, null, a, null), false, false}, {mapOf(a, null, a, b), false, false}, {mapOf(a, null, b, null, b, null), false, false}, {mapOf(a, null, b, null, a, null), false, false}, {mapOf(a, null, a, null, b, null), false, false},
		// A last name without a value counts.
		{mapOf(a), true, true}, {mapOf(a, null, b), true, true}, {mapOf(b, null, a), true, false}, {mapOf(a, null, a), false, false}, {mapOf(a, null, b, null, a), false, false}, {mapOf(a, b, b), true, true},
		// Names are equal in all fields, and at all depths.
		{mapOf(a, null, bytesOf("a"), null), true, true}, {mapOf(intOf(1), null, fltOf(1, 0), null), true, true}, {mapOf(fltOf(3, -1), null, fltOf(1, 1), null), true, true}, {mapOf(fltOf(1, 1), null, fltOf(3, -1), null), true, false}, {mapOf(decOf(15, -1), null, decOf(2, 0), null), true, true},
		{mapOf(mapOf(a, b), null, mapOf(a, b), null), false, false}, {mapOf(mapOf(a, b), null, mapOf(a, b, a), null), true, true}, {mapOf(listOf(), null, listOf(null), null, listOf(null, null), null), true, true}, {mapOf(listOf(listOf(a)), null, listOf(listOf(b)), null, listOf(listOf(a)), null), false, false},
		// Equal names that are not neighbours in the order of a circle.
		{mapOf(fltOf(3, -1), null, fltOf(1, 1), null, fltOf(2, 0), null), true, true}, {mapOf(fltOf(3, -1), null, fltOf(1, 1), null, fltOf(2, 0), null, fltOf(3, -1), null), false, true},
		// What is no map has no names, and equal values or the names of an inner map do not count.
		{listOf(b, null, a, null, b), true, true}, {tagOf(1, mapOf(b, null, a, null, b, null)), true, true}, {intOf(1), true, true}, {impl.Val{}, true, true}, {impl.Val{L: vals(a, null, a, null)}, true, true}, {mapOf(a, mapOf(b, null, b, null)), true, true},
	} {
		if once, sorted := impl.OnceEach(x.v), impl.Sorted(x.v); once != x.once || sorted != x.sorted {
			t.Errorf("OnceEach and Sorted(%s) = %t, %t, want %t, %t", fieldsText(x.v), once, sorted, x.once, x.sorted)
		}
	}
	for _, v := range slices.Concat(testMaps(), otherVals(), validTrees(), invalidVals()) {
		for _, tree := range []impl.Val{v, sortedPairs(v)} {
			if once, want := impl.OnceEach(tree), onceEach(tree); once != want {
				t.Errorf("OnceEach(%s) = %t", fieldsText(tree), once)
			}
			if sorted, want := impl.Sorted(tree), ascending(tree); sorted != want {
				t.Errorf("Sorted(%s) = %t", fieldsText(tree), sorted)
			}
		}
	}
}

// TestSmallMaps goes through all maps and lists of up to five of these values.
func TestSmallMaps(t *testing.T) {
	some := vals(textOf("a"), textOf("b"), intOf(1), impl.Val{})
	l := [][]impl.Val{{}}
	for from := 0; from < len(l); from++ {
		for _, kind := range []int{9, 10} {
			v := impl.Val{Kind: kind, L: l[from]}
			checkVal(t, "SortMap("+fieldsText(v)+")", impl.SortMap(v), sortedPairs(v))
			if impl.OnceEach(v) != onceEach(v) || impl.Sorted(v) != ascending(v) {
				t.Errorf("OnceEach and Sorted(%s) = %t, %t", fieldsText(v), impl.OnceEach(v), impl.Sorted(v))
			}
			for _, x := range some {
				checkLookup(t, v, x)
			}
		}
		for _, x := range some {
			if len(l[from]) < 5 {
				l = append(l, append(slices.Clone(l[from]), x))
			}
		}
	}
	if len(l) != 1+4+16+64+256+1024 {
		t.Errorf("%d maps", len(l))
	}
}

// TestOnceEachFindsAnyTwo puts one equal name at each of two places among different ones.
func TestOnceEachFindsAnyTwo(t *testing.T) {
	names := unlikeTrees()[:300]
	m := mapOf()
	for _, x := range names {
		m.L = append(m.L, x, nullVal())
	}
	if !impl.OnceEach(m) {
		t.Fatal("OnceEach of different names = false")
	}
	random := rand.New(rand.NewSource(5))
	for range 300 {
		i, j := random.Intn(len(names)), random.Intn(len(names))
		v := deepCopy(m, nil)
		v.L[2*i] = v.L[2*j]
		if got := impl.OnceEach(v); got != (i == j) {
			t.Errorf("OnceEach = %t with equal names at %d and %d", got, i, j)
		}
	}
}

// orderResults are all values that the functions of chapter 7 return for v.
func orderResults(v impl.Val) []impl.Val {
	l := append(vals(impl.SortMap(v)), impl.NamesOf(v)...)
	for _, x := range v.L {
		if found, ok := impl.Lookup(v, x); ok {
			l = append(l, found)
		}
	}
	return l
}

// TestOrderResultsAreNewMemory changes the results, and then the argument, at every depth.
func TestOrderResultsAreNewMemory(t *testing.T) {
	a, null := textOf("a"), nullVal()
	inner := listOf(listOf(a, null), mapOf(a, listOf(null)))
	maps := append(validTrees(), mapOf(), mapOf(inner), mapOf(inner, inner), mapOf(textOf("b"), inner, inner, inner, a, inner), mapOf(inner, a, inner), listOf(inner), tagOf(1, inner), impl.Val{Kind: 7, L: vals(inner)})
	for _, v := range maps {
		tree := deepCopy(v, nil)
		before := fieldsText(tree)
		for i := range orderResults(tree) {
			got := orderResults(tree)[i]
			for _, place := range placesIn(&got) {
				place.N++
				place.L = append(place.L, impl.Val{})
			}
			if after := fieldsText(tree); after != before {
				t.Errorf("a change of result %d changes %s to %s", i, before, after)
			}
		}
		got := listOf(orderResults(tree)...)
		want := fieldsText(got)
		for _, place := range placesIn(&tree) {
			place.N++
		}
		if fieldsText(got) != want {
			t.Errorf("a change of %s changes a result", before)
		}
	}
}

// TestOrderResultsAreSeparate passes values that share memory with each other, or have room that others use.
func TestOrderResultsAreSeparate(t *testing.T) {
	room := vals(intOf(1), intOf(2), intOf(3))
	a, b := listOf(room[:1]...), listOf(room[:2]...)
	v := mapOf(b, b, a, a)
	sorted, names := impl.SortMap(v), impl.NamesOf(v)
	found, _ := impl.Lookup(v, a)
	for i := range sorted.L {
		sorted.L[i].L = append(sorted.L[i].L, intOf(10+i))
		sorted.L[i].L[0].N = 20 + i
	}
	checkVal(t, "SortMap", sorted, mapOf(listOf(intOf(20), intOf(10)), listOf(intOf(21), intOf(11)), listOf(intOf(22), intOf(2), intOf(12)), listOf(intOf(23), intOf(2), intOf(13))))
	for i := range names {
		names[i].L = append(names[i].L, intOf(30+i))
	}
	checkVal(t, "NamesOf", listOf(names...), listOf(listOf(intOf(1), intOf(2), intOf(30)), listOf(intOf(1), intOf(31))))
	found.L = append(found.L, intOf(40))
	checkVal(t, "the room", listOf(room...), listOf(intOf(1), intOf(2), intOf(3)))
	// Elements behind the length are not there.
	cut := mapOf(vals(textOf("b"), intOf(1), textOf("a"), intOf(2), textOf("a"), intOf(3))[:2]...)
	checkVal(t, "SortMap of a cut map", impl.SortMap(cut), mapOf(textOf("b"), intOf(1)))
	if _, ok := impl.Lookup(cut, textOf("a")); ok || len(impl.NamesOf(cut)) != 1 || !impl.Sorted(cut) || !impl.OnceEach(cut) {
		t.Error("pairs behind the elements are read")
	}
	if shorter := mapOf(cut.L[:1]...); impl.LessVal(cut, shorter) || !impl.LessVal(shorter, cut) {
		t.Error("elements behind the length are compared")
	}
	if full := cut.L[:6]; fieldsText(full[2]) != fieldsText(textOf("a")) || full[5].N != 3 {
		t.Error("the room behind the elements is written")
	}
}

func TestArgumentsOfOrderStay(t *testing.T) {
	for _, v := range slices.Concat(validTrees(), invalidVals(), testMaps()[:400], otherVals()) {
		before := fieldsText(v)
		orderResults(v)
		impl.LessVal(v, deepCopy(v, nil))
		impl.OnceEach(v)
		impl.Sorted(v)
		if after := fieldsText(v); after != before {
			t.Errorf("%s has become %s", before, after)
		}
	}
}

func TestDeepOrder(t *testing.T) {
	const deep = 300000
	a, b, longer := chain(deep, textOf("a")), chain(deep, textOf("b")), chain(deep, listOf())
	for i, x := range vals(a, b, longer) {
		for j, y := range vals(a, b, longer) {
			if impl.LessVal(x, y) != (i < j) {
				t.Errorf("LessVal of the deep trees %d and %d = %t", i, j, i >= j)
			}
		}
	}
	v := impl.SortMap(mapOf(b, intOf(1), a, intOf(2), b, intOf(3)))
	if v.L[1].N != 2 || v.L[3].N != 1 || v.L[5].N != 3 || impl.Sorted(v) || impl.OnceEach(v) {
		t.Error("deep names are treated differently")
	}
	if x, ok := impl.Lookup(v, b); !ok || x.N != 3 {
		t.Errorf("Lookup of a deep name = %s, %t", fieldsText(x), ok)
	}
	if v.L = v.L[:4]; !impl.Sorted(v) || !impl.OnceEach(v) {
		t.Error("different deep names are treated as equal ones")
	}
}

func TestWideMaps(t *testing.T) {
	l := []impl.Val{}
	for n := range 100000 {
		l = append(l, textOf(strconv.Itoa(1000000+n)), intOf(n))
	}
	v := mapOf(l...)
	last, ok := impl.Lookup(v, textOf("1000000"))
	if !impl.Sorted(v) || !impl.OnceEach(v) || !ok || last.N != 0 || len(impl.NamesOf(v)) != 100000 || !impl.SameVal(impl.SortMap(v), v) {
		t.Error("a wide map is treated differently")
	}
	v = mapOf(append(l, textOf("1000000"), intOf(-1))...)
	last, ok = impl.Lookup(v, textOf("1000000"))
	if impl.Sorted(v) || impl.OnceEach(v) || !ok || last.N != -1 || impl.SortMap(v).L[3].N != -1 {
		t.Error("an equal name in a wide map is treated differently")
	}
}
