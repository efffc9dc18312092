package tests

import (
	"math"
	"slices"
	"strconv"
	"strings"
	"testing"
	"unicode/utf8"

	"loop.example/g00502/impl"
)

// vals is short for the elements of a list or map.
func vals(l ...impl.Val) []impl.Val {
	return l
}

// listOf, mapOf and tagOf build trees without the functions under test.
func listOf(l ...impl.Val) impl.Val {
	return impl.Val{Kind: 9, L: l}
}

func mapOf(l ...impl.Val) impl.Val {
	return impl.Val{Kind: 10, L: l}
}

func tagOf(n int, v impl.Val) impl.Val {
	return impl.Val{Kind: 11, N: n, L: vals(v)}
}

func textOf(s string) impl.Val {
	return impl.Val{Kind: 7, S: s}
}

func intOf(n int) impl.Val {
	return impl.Val{Kind: 3, N: n}
}

func nullVal() impl.Val {
	return impl.Val{Kind: 1}
}

// fieldsText writes all fields of a tree: two trees are equal if and only if their texts are.
func fieldsText(v impl.Val) string {
	b := strings.Builder{}
	b.WriteString("(" + strconv.Itoa(v.Kind) + " " + strconv.Itoa(v.N) + " " + strconv.Itoa(v.X) + " " + strconv.Quote(v.S))
	for _, x := range v.L {
		b.WriteString(" " + fieldsText(x))
	}
	return b.String() + ")"
}

// deepCopy copies a tree, and makes every empty L the given one.
func deepCopy(v impl.Val, empty []impl.Val) impl.Val {
	if len(v.L) == 0 {
		v.L = empty
		return v
	}
	l := []impl.Val{}
	for _, x := range v.L {
		l = append(l, deepCopy(x, empty))
	}
	v.L = l
	return v
}

// placesIn returns pointers to all values of a tree.
func placesIn(v *impl.Val) []*impl.Val {
	l := []*impl.Val{v}
	for i := range v.L {
		l = append(l, placesIn(&v.L[i])...)
	}
	return l
}

// validVal restates chapter 6, kind by kind and field by field.
func validVal(v impl.Val) bool {
	for _, x := range v.L {
		if !validVal(x) {
			return false
		}
	}
	noN, noX, noS, noL := v.N == 0, v.X == 0, v.S == "", len(v.L) == 0
	switch v.Kind {
	case 1:
		return noN && noX && noS && noL
	case 2:
		return (v.N == 0 || v.N == 1) && noX && noS && noL
	case 3:
		return -1000000000000000 <= v.N && v.N <= 1000000000000000 && noX && noS && noL
	case 4:
		return validFlt(impl.Flt{M: v.N, E: v.X}) && noS && noL
	case 5:
		return (v.N == 0 || v.N == 1 || v.N == 2) && noX && noS && noL
	case 6:
		return v.X < 0 && validDec(impl.Dec{N: v.N, X: v.X}) && noS && noL
	case 7:
		return utf8.ValidString(v.S) && noN && noX && noL
	case 8:
		return noN && noX && noL
	case 9:
		return noN && noX && noS
	case 10:
		return noN && noX && noS && len(v.L)%2 == 0
	case 11:
		return 0 <= v.N && v.N <= 1000000000000000 && noX && noS && len(v.L) == 1
	}
	return false
}

// validLeaves are different valid values of all kinds without elements.
func validLeaves() []impl.Val {
	l := []impl.Val{
		{Kind: 1},
		{Kind: 2}, {Kind: 2, N: 1},
		{Kind: 3}, {Kind: 3, N: 1}, {Kind: 3, N: -1}, {Kind: 3, N: 2}, {Kind: 3, N: 10}, {Kind: 3, N: 65537}, {Kind: 3, N: impl.MaxInt - 1}, {Kind: 3, N: impl.MaxInt}, {Kind: 3, N: -impl.MaxInt},
		{Kind: 4}, {Kind: 4, N: 1}, {Kind: 4, N: -1}, {Kind: 4, N: 1, X: -1}, {Kind: 4, N: 1, X: 1}, {Kind: 4, N: 65535, X: 30}, {Kind: 4, N: -65535, X: -16}, {Kind: 4, N: 1, X: 45},
		{Kind: 5}, {Kind: 5, N: 1}, {Kind: 5, N: 2},
		{Kind: 6, N: 1, X: -1}, {Kind: 6, N: -1, X: -1}, {Kind: 6, N: 1, X: -16}, {Kind: 6, N: 15, X: -1}, {Kind: 6, N: 99999999999999999, X: -16}, {Kind: 6, N: -99999999999999999, X: -1},
		{Kind: 9}, {Kind: 10},
	}
	for _, s := range []string{"", "a", "b", "ab", "é", "€", "😀", "\x00", "a\x00", "a\nb", "null", "\U0010ffff", "\ufffd"} {
		l = append(l, impl.Val{Kind: 7, S: s}, impl.Val{Kind: 8, S: s})
	}
	for _, s := range []string{"\x80", "\xff", "a\xc3", "\xed\xa0\x80", "\xc0\x80", "\xf4\x90\x80\x80"} {
		l = append(l, impl.Val{Kind: 8, S: s})
	}
	return l
}

// validTrees are different valid values, leaves among them.
func validTrees() []impl.Val {
	a, b, null := textOf("a"), textOf("b"), nullVal()
	l := validLeaves()
	for _, x := range validLeaves() {
		l = append(l, listOf(x), listOf(x, x), listOf(null, x, null, null), mapOf(a, x), mapOf(x, b), tagOf(0, x), tagOf(7, x), listOf(listOf(x), x))
	}
	return append(l,
		listOf(null, a), listOf(a, null), listOf(a, b), listOf(b, a), listOf(listOf(), listOf()), listOf(listOf(listOf())), listOf(mapOf()), listOf(mapOf(), listOf()), listOf(listOf(), mapOf()), mapOf(listOf(), mapOf()), mapOf(mapOf(), listOf()),
		// The same values in the same order, in lists of different lengths.
		listOf(listOf(a, b)), listOf(listOf(a), b), listOf(listOf(), a, b), listOf(a, listOf(b)), listOf(listOf(a), listOf(b)), listOf(listOf(a, listOf(b))), listOf(listOf(listOf(a), b)),
		// Names may be any values, also equal ones and maps.
		mapOf(a, b, a, null), mapOf(a, null, a, b), mapOf(a, null, b, null), mapOf(b, null, a, null), mapOf(a, a, a, a), mapOf(mapOf(a, b), mapOf(b, a)), mapOf(mapOf(a, b), mapOf(a, b)), mapOf(mapOf(mapOf(a, null), a), a), mapOf(tagOf(1, a), listOf(a), listOf(b, null), tagOf(1, b)), mapOf(null, null), mapOf(null, null, null, null),
		tagOf(impl.MaxInt, null), tagOf(1, tagOf(2, null)), tagOf(2, tagOf(1, null)), tagOf(1, tagOf(2, tagOf(3, mapOf(a, b)))), tagOf(5, mapOf(a, listOf(b, tagOf(6, null)))),
	)
}

// invalidVals break the conditions one by one.
func invalidVals() []impl.Val {
	a, null := textOf("a"), nullVal()
	l := []impl.Val{
		{}, {Kind: -1}, {Kind: 12}, {Kind: 13}, {Kind: 1 << 32}, {Kind: 1<<32 + 1}, {Kind: 1<<8 + 1}, {Kind: math.MaxInt}, {Kind: math.MinInt}, {N: 1}, {S: "a"}, {L: vals(null)}, {Kind: 12, N: 1}, {Kind: 12, L: vals(null)},
		{Kind: 2, N: 2}, {Kind: 2, N: -1}, {Kind: 2, N: math.MinInt}, {Kind: 2, N: 1 << 32},
		{Kind: 3, N: impl.MaxInt + 1}, {Kind: 3, N: -impl.MaxInt - 1}, {Kind: 3, N: math.MaxInt}, {Kind: 3, N: math.MinInt},
		{Kind: 5, N: 3}, {Kind: 5, N: -1}, {Kind: 5, N: math.MaxInt}, {Kind: 5, N: math.MinInt}, {Kind: 5, N: 1 << 32},
		// A KDec without places would be a KInt.
		{Kind: 6}, {Kind: 6, N: 1}, {Kind: 6, N: -17}, {Kind: 6, N: impl.MaxInt}, {Kind: 6, N: 1, X: 1},
		// Names without a value.
		mapOf(a), mapOf(null), mapOf(a, null, a), mapOf(a, a, a, a, a), mapOf(mapOf()), mapOf(mapOf(a, null)), mapOf(listOf(a, null)),
		{Kind: 11}, {Kind: 11, N: 1}, {Kind: 11, L: vals(null, null)}, {Kind: 11, N: 1, L: vals(a, null, a)}, tagOf(-1, null), tagOf(impl.MaxInt+1, null), tagOf(math.MaxInt, null), tagOf(math.MinInt, null),
	}
	for _, f := range invalidFlts() {
		l = append(l, impl.Val{Kind: 4, N: f.M, X: f.E})
	}
	for _, d := range invalidDecs() {
		l = append(l, impl.Val{Kind: 6, N: d.N, X: d.X})
	}
	for _, s := range []string{"\x80", "\xff", "a\xc3", "\xc3a", "\xed\xa0\x80", "\xc0\x80", "\xf4\x90\x80\x80", "ab\xe2\x82"} {
		l = append(l, textOf(s))
	}
	return append(l, unusedFields()...)
}

// unusedFields are valid but for one field that the kind does not use.
func unusedFields() []impl.Val {
	l := []impl.Val{}
	for _, c := range []struct {
		v    impl.Val
		used string
	}{
		{impl.Val{Kind: 1}, ""}, {impl.Val{Kind: 2}, "N"}, {impl.Val{Kind: 2, N: 1}, "N"}, {intOf(0), "N"}, {intOf(-5), "N"}, {impl.Val{Kind: 4}, "NX"}, {impl.Val{Kind: 4, N: 3, X: -2}, "NX"}, {impl.Val{Kind: 5}, "N"}, {impl.Val{Kind: 5, N: 2}, "N"}, {impl.Val{Kind: 6, N: 5, X: -1}, "NX"},
		{textOf(""), "S"}, {textOf("a"), "S"}, {impl.Val{Kind: 8}, "S"}, {impl.Val{Kind: 8, S: "\xff"}, "S"}, {listOf(), "L"}, {listOf(nullVal()), "L"}, {mapOf(), "L"}, {mapOf(textOf("a"), nullVal()), "L"}, {tagOf(0, nullVal()), "NL"}, {tagOf(3, nullVal()), "NL"},
	} {
		for _, n := range []int{1, -1, math.MaxInt, math.MinInt, 1 << 32} {
			if !strings.Contains(c.used, "N") {
				x := c.v
				x.N = n
				l = append(l, x)
			}
			if !strings.Contains(c.used, "X") {
				x := c.v
				x.X = n
				l = append(l, x)
			}
		}
		for _, s := range []string{"a", "\x00", "\xff"} {
			if !strings.Contains(c.used, "S") {
				x := c.v
				x.S = s
				l = append(l, x)
			}
		}
		for _, elements := range [][]impl.Val{vals(nullVal()), vals(textOf("a"), nullVal()), vals(impl.Val{})} {
			if !strings.Contains(c.used, "L") {
				x := c.v
				x.L = elements
				l = append(l, x)
			}
		}
	}
	return l
}

// around returns trees that contain v at different places, and are valid if v is.
func around(v impl.Val) []impl.Val {
	a, null := textOf("a"), nullVal()
	l := []impl.Val{
		listOf(v), listOf(v, null), listOf(null, v), listOf(a, v, null), listOf(listOf(), listOf(null, v), null),
		mapOf(v, null), mapOf(a, v), mapOf(a, null, v, null), mapOf(a, null, null, v), mapOf(v, null, a, null), mapOf(mapOf(v, null), null), mapOf(mapOf(a, v), null), mapOf(a, mapOf(v, a)), mapOf(a, mapOf(a, v)),
		tagOf(0, v), tagOf(1, tagOf(2, v)), tagOf(1, listOf(a, v)), listOf(mapOf(a, tagOf(9, listOf(null, mapOf(mapOf(null, listOf(v)), a)))), a),
	}
	deep := v
	for range 30 {
		deep = listOf(tagOf(1, mapOf(null, deep)))
	}
	return append(l, deep)
}

func TestValConstants(t *testing.T) {
	kinds := []int{impl.KNull, impl.KBool, impl.KInt, impl.KFlt, impl.KOdd, impl.KDec, impl.KText, impl.KBytes, impl.KList, impl.KMap, impl.KTag}
	if !slices.Equal(kinds, []int{1, 2, 3, 4, 5, 6, 7, 8, 9, 10, 11}) || impl.OdNone != 0 || impl.OdMore != 1 || impl.OdLess != 2 {
		t.Error("a constant of chapter 6 has another value")
	}
}

func TestValOk(t *testing.T) {
	for _, v := range validTrees() {
		if !impl.ValOk(v) {
			t.Errorf("ValOk(%s) = false", fieldsText(v))
		}
	}
	for _, v := range invalidVals() {
		if impl.ValOk(v) {
			t.Errorf("ValOk(%s) = true", fieldsText(v))
		}
	}
	for _, n := range edgeInts() {
		for kind := 0; kind <= 12; kind++ {
			for x := -18; x <= 2; x++ {
				v := impl.Val{Kind: kind, N: n, X: x}
				if kind == 11 {
					v.L = vals(nullVal())
				}
				if got := impl.ValOk(v); got != validVal(v) {
					t.Errorf("ValOk(%s) = %t", fieldsText(v), got)
				}
			}
		}
	}
	eachFlt(func(f impl.Flt) {
		if !impl.ValOk(impl.Val{Kind: 4, N: f.M, X: f.E}) {
			t.Fatalf("ValOk of the KFlt %v = false", f)
		}
	})
}

// TestValOkSmall combines small contents of all fields with all kinds.
func TestValOkSmall(t *testing.T) {
	null := nullVal()
	elements := [][]impl.Val{nil, {}, {null}, {null, null}, {null, null, null}, {null, null, null, null}, {{}}, {null, {}}, {{}, null}, {mapOf(null)}, {null, mapOf(null)}}
	valid := 0
	for kind := -1; kind <= 13; kind++ {
		for n := -2; n <= 3; n++ {
			for x := -2; x <= 2; x++ {
				for _, s := range []string{"", "a", "\x80"} {
					for _, l := range elements {
						v := impl.Val{Kind: kind, N: n, X: x, S: s, L: l}
						want := validVal(v)
						if got := impl.ValOk(v); got != want {
							t.Errorf("ValOk(%s) = %t", fieldsText(v), got)
						}
						if want {
							valid++
						}
					}
				}
			}
		}
	}
	// nil and empty both count: 2*(1 null, 2 bools, 6 ints, 16 floats, 3 odds, 10 decimals, 2 texts, 3 byte strings), 6 lists, 4 maps, 4 tags.
	if valid != 2*43+6+4+4 {
		t.Errorf("%d values are valid", valid)
	}
}

func TestValOkAtAnyDepth(t *testing.T) {
	for _, v := range validTrees() {
		for _, tree := range around(v) {
			if !impl.ValOk(tree) {
				t.Errorf("ValOk is false for a tree around the valid %s", fieldsText(v))
			}
		}
	}
	for _, v := range invalidVals() {
		for i, tree := range around(v) {
			if impl.ValOk(tree) {
				t.Errorf("ValOk is true for tree %d around the invalid %s", i, fieldsText(v))
			}
		}
	}
}

// TestValOkIsBrokenAnywhere breaks one value of a valid tree at a time.
func TestValOkIsBrokenAnywhere(t *testing.T) {
	for _, v := range validTrees() {
		for i := range placesIn(&v) {
			for _, broken := range []impl.Val{{}, {Kind: 7, S: "\xff"}, mapOf(nullVal())} {
				tree := deepCopy(v, nil)
				*placesIn(&tree)[i] = broken
				if impl.ValOk(tree) {
					t.Errorf("ValOk(%s) = true", fieldsText(tree))
				}
			}
		}
	}
}

// TestNamesWithoutValue cuts a map in a valid tree after each of its elements.
func TestNamesWithoutValue(t *testing.T) {
	cuts := 0
	for _, v := range validTrees() {
		for i, place := range placesIn(&v) {
			for n := range place.L {
				tree := deepCopy(v, nil)
				cut := placesIn(&tree)[i]
				cut.L = cut.L[:n]
				// A list may end anywhere, a map after a value only, and a tag needs its element.
				want := cut.Kind == 9 || cut.Kind == 10 && n%2 == 0
				if got := impl.ValOk(tree); got != want {
					t.Errorf("ValOk(%s) = %t", fieldsText(tree), got)
				}
				if impl.SameVal(tree, v) || impl.SameVal(v, tree) {
					t.Errorf("SameVal(%s, %s) = true", fieldsText(tree), fieldsText(v))
				}
				if got, want := impl.CountOf(tree), len(placesIn(&tree)); got != want {
					t.Errorf("CountOf(%s) = %d, want %d", fieldsText(tree), got, want)
				}
				if cut.Kind == 10 && n%2 == 1 {
					cuts++
				}
			}
		}
	}
	if cuts < 100 {
		t.Errorf("only %d names were left without a value", cuts)
	}
	a, null := textOf("a"), nullVal()
	l := []impl.Val{mapOf(), mapOf(a), mapOf(a, null), mapOf(a, a), mapOf(a, null, a), mapOf(a, a, a), mapOf(a, null, a, null), mapOf(null), mapOf(mapOf(a)), mapOf(mapOf(a, null)), mapOf(mapOf(), a), mapOf(mapOf(a), null), listOf(a), listOf(mapOf(a)), listOf(mapOf(), a)}
	for i, x := range l {
		for j, y := range l {
			if got := impl.SameVal(x, y); got != (i == j) {
				t.Errorf("SameVal(%s, %s) = %t", fieldsText(x), fieldsText(y), got)
			}
		}
	}
	for _, c := range []struct {
		v           impl.Val
		deep, count int
	}{
		{mapOf(a), 2, 2}, {mapOf(a, null, a), 2, 4}, {mapOf(listOf(a)), 3, 3}, {mapOf(a, null, mapOf(mapOf(listOf()))), 4, 6}, {listOf(mapOf(a), mapOf(mapOf(a))), 4, 6},
	} {
		if deep, count := impl.DeepOf(c.v), impl.CountOf(c.v); deep != c.deep || count != c.count {
			t.Errorf("DeepOf and CountOf(%s) = %d, %d, want %d, %d", fieldsText(c.v), deep, count, c.deep, c.count)
		}
	}
}

// TestSameVal holds promise 6: among many different trees, valid and invalid ones, each equals only itself.
func TestSameVal(t *testing.T) {
	l := []impl.Val{}
	texts := []string{}
	for _, v := range append(validTrees(), invalidVals()...) {
		// Some lists contain the same invalid value; the trees are to be different.
		if text := fieldsText(v); !slices.Contains(texts, text) {
			l = append(l, v)
			texts = append(texts, text)
		}
	}
	if len(l) < 700 {
		t.Fatalf("only %d trees", len(l))
	}
	for i, a := range l {
		for j, b := range l {
			if got := impl.SameVal(a, b); got != (i == j) {
				t.Fatalf("SameVal(%s, %s) = %t", texts[i], texts[j], got)
			}
		}
		if !impl.SameVal(a, deepCopy(a, nil)) || !impl.SameVal(deepCopy(a, nil), deepCopy(a, []impl.Val{})) || !impl.SameVal(deepCopy(a, []impl.Val{}), a) {
			t.Errorf("%s does not equal its copies", texts[i])
		}
		copies := around(deepCopy(a, []impl.Val{}))
		for k, x := range around(a) {
			if !impl.SameVal(x, copies[k]) {
				t.Errorf("tree %d around %s does not equal its copy", k, texts[i])
			}
			if impl.SameVal(x, a) || impl.SameVal(a, x) {
				t.Errorf("tree %d around %s equals that", k, texts[i])
			}
		}
	}
}

// TestSameValSeesEveryChange changes one field of one value at a time, also fields that the kind does not use.
func TestSameValSeesEveryChange(t *testing.T) {
	changes := []func(v *impl.Val){
		func(v *impl.Val) { v.Kind++ },
		func(v *impl.Val) { v.Kind += 1 << 32 },
		func(v *impl.Val) { v.N++ },
		func(v *impl.Val) { v.N = -v.N - 1 },
		func(v *impl.Val) { v.N += 1 << 32 },
		func(v *impl.Val) { v.X++ },
		func(v *impl.Val) { v.X += 1 << 32 },
		func(v *impl.Val) { v.S += "a" },
		func(v *impl.Val) { v.S += "\x00" },
		func(v *impl.Val) { v.S = "\xff" + v.S },
		func(v *impl.Val) { v.L = append(v.L, impl.Val{}) },
		func(v *impl.Val) { v.L = append(v.L, nullVal()) },
		func(v *impl.Val) { v.L = append(vals(listOf()), v.L...) },
		func(v *impl.Val) { v.L = append(vals(listOf(v.L...)), v.L...) },
		func(v *impl.Val) { *v = listOf(*v) },
		func(v *impl.Val) { *v = tagOf(0, *v) },
	}
	for _, v := range append(validTrees(), invalidVals()...) {
		for i := range placesIn(&v) {
			for k, change := range changes {
				tree := deepCopy(v, nil)
				change(placesIn(&tree)[i])
				if impl.SameVal(tree, v) || impl.SameVal(v, tree) {
					t.Errorf("change %d at value %d of %s is not seen", k, i, fieldsText(v))
				}
			}
		}
	}
}

// deepByDefinition is the definition of DeepOf.
func deepByDefinition(v impl.Val) int {
	most := 0
	for _, x := range v.L {
		most = max(most, deepByDefinition(x))
	}
	return 1 + most
}

func TestDeepOfAndCountOf(t *testing.T) {
	a, null := textOf("a"), nullVal()
	for _, c := range []struct {
		v           impl.Val
		deep, count int
	}{
		{null, 1, 1}, {impl.Val{}, 1, 1}, {a, 1, 1}, {listOf(), 1, 1}, {mapOf(), 1, 1}, {impl.Val{Kind: 11}, 1, 1},
		{listOf(null), 2, 2}, {listOf(null, null, a), 2, 4}, {mapOf(a, null), 2, 3}, {tagOf(1, null), 2, 2}, {listOf(listOf(), listOf()), 2, 3},
		{mapOf(a, listOf(null, a)), 3, 5}, {mapOf(listOf(null, a), a), 3, 5}, {listOf(null, listOf(listOf(listOf())), null), 4, 6}, {listOf(listOf(null), null, listOf(null, a)), 3, 7},
		{tagOf(1, tagOf(2, mapOf(mapOf(a, a), mapOf(a, tagOf(3, a))))), 6, 10},
		// Elements count in invalid values too, whatever their kind.
		{impl.Val{L: vals(null, listOf(null))}, 3, 4}, {impl.Val{Kind: 3, N: 5, L: vals(null)}, 2, 2}, {impl.Val{Kind: 7, S: "a", L: vals(listOf(a), null)}, 3, 4}, {impl.Val{Kind: 11, N: -1, L: vals(null, null)}, 2, 3}, {impl.Val{Kind: 12, L: vals(impl.Val{Kind: -1, L: vals(null)})}, 3, 3},
	} {
		if deep, count := impl.DeepOf(c.v), impl.CountOf(c.v); deep != c.deep || count != c.count {
			t.Errorf("DeepOf and CountOf(%s) = %d, %d, want %d, %d", fieldsText(c.v), deep, count, c.deep, c.count)
		}
	}
	for _, v := range append(validTrees(), invalidVals()...) {
		for _, tree := range append(around(v), v) {
			if deep, want := impl.DeepOf(tree), deepByDefinition(tree); deep != want {
				t.Errorf("DeepOf = %d for a tree of depth %d with %s", deep, want, fieldsText(v))
			}
			if count, want := impl.CountOf(tree), len(placesIn(&tree)); count != want {
				t.Errorf("CountOf = %d for a tree of %d values with %s", count, want, fieldsText(v))
			}
		}
	}
}

// chain is a tree of the given depth with this innermost value. Each of its values has an element before and one behind the next one.
func chain(deep int, v impl.Val) impl.Val {
	for range deep - 1 {
		v = listOf(nullVal(), v, nullVal())
	}
	return v
}

func TestDeepTrees(t *testing.T) {
	const deep = 300000
	good, bad := chain(deep, textOf("a")), chain(deep, mapOf(textOf("a")))
	if !impl.ValOk(good) || impl.ValOk(bad) {
		t.Error("ValOk is wrong for deep trees")
	}
	if !impl.SameVal(good, chain(deep, textOf("a"))) || impl.SameVal(good, bad) || impl.SameVal(good, chain(deep, textOf("b"))) || impl.SameVal(good, chain(deep+1, textOf("a"))) {
		t.Error("SameVal is wrong for deep trees")
	}
	if got := impl.DeepOf(good); got != deep {
		t.Errorf("DeepOf = %d, want %d", got, deep)
	}
	if got := impl.CountOf(good); got != 3*deep-2 {
		t.Errorf("CountOf = %d, want %d", got, 3*deep-2)
	}
	if got := impl.ListVal(vals(nullVal(), good, nullVal())); !impl.SameVal(got, chain(deep+1, textOf("a"))) {
		t.Error("ListVal is wrong for deep trees")
	}
}

func TestWideTrees(t *testing.T) {
	l := []impl.Val{}
	for n := range 100000 {
		l = append(l, intOf(n), listOf(intOf(-n)))
	}
	v, w := mapOf(l...), mapOf(append(slices.Clone(l[:len(l)-1]), listOf(intOf(7)))...)
	if !impl.ValOk(v) || impl.ValOk(mapOf(l[:len(l)-1]...)) || impl.DeepOf(v) != 3 || impl.CountOf(v) != 300001 || !impl.SameVal(v, v) || impl.SameVal(v, w) {
		t.Error("a wide tree is treated differently")
	}
}

// TestSpareCapacityIsNotRead puts values behind the elements that count.
func TestSpareCapacityIsNotRead(t *testing.T) {
	room := vals(textOf("a"), nullVal(), impl.Val{}, listOf(listOf()))
	v := mapOf(room[:2]...)
	if !impl.ValOk(v) || impl.DeepOf(v) != 2 || impl.CountOf(v) != 3 || !impl.SameVal(v, mapOf(textOf("a"), nullVal())) || !impl.SameVal(mapOf(textOf("a"), nullVal()), v) || impl.SameVal(v, mapOf(room[:1]...)) {
		t.Error("values behind the elements are read")
	}
	if got := impl.ListVal(room[:1]); len(got.L) != 1 || fieldsText(got) != fieldsText(listOf(textOf("a"))) {
		t.Errorf("ListVal = %s", fieldsText(got))
	}
}

func TestArgumentsOfValuesStay(t *testing.T) {
	for _, v := range append(validTrees(), invalidVals()...) {
		before := fieldsText(v)
		impl.ValOk(v)
		impl.SameVal(v, deepCopy(v, nil))
		impl.DeepOf(v)
		impl.CountOf(v)
		impl.ListVal(vals(v))
		impl.ListVal(v.L)
		if after := fieldsText(v); after != before {
			t.Errorf("%s has become %s", before, after)
		}
	}
}

func TestKindName(t *testing.T) {
	names := map[int]string{1: "null", 2: "bool", 3: "int", 4: "flt", 5: "odd", 6: "dec", 7: "text", 8: "bytes", 9: "list", 10: "map", 11: "tag"}
	for n := -300; n <= 300; n++ {
		if got := impl.KindName(n); got != names[n] {
			t.Errorf("KindName(%d) = %q, want %q", n, got, names[n])
		}
	}
	for _, n := range append(edgeInts(), math.MaxInt, math.MinInt, 1<<32+1, 1<<62+3, math.MinInt+7) {
		if got := impl.KindName(n); got != names[n] {
			t.Errorf("KindName(%d) = %q, want %q", n, got, names[n])
		}
	}
}

// checkBuilt compares all fields of a built value.
func checkBuilt(t *testing.T, got, want impl.Val) {
	t.Helper()
	if fieldsText(got) != fieldsText(want) {
		t.Errorf("got %s, want %s", fieldsText(got), fieldsText(want))
	}
	if impl.ValOk(got) != validVal(want) || !impl.SameVal(got, want) {
		t.Errorf("%s is not the valid value that it should be", fieldsText(got))
	}
}

func TestBuiltLeaves(t *testing.T) {
	// Contents outside of the range are taken as they are; the values are invalid then.
	for _, n := range append(edgeInts(), 0, 1, -1, impl.MaxInt+1, -impl.MaxInt-1, math.MaxInt, math.MinInt) {
		checkBuilt(t, impl.IntVal(n), impl.Val{Kind: 3, N: n})
		checkBuilt(t, impl.NumberVal(impl.Dec{N: n}), impl.Val{Kind: 3, N: n})
	}
	for _, s := range []string{"", "a", "é€😀", "\x00", "a\nb", "\x80", "\xff\xfe", "a\xc3", "\xed\xa0\x80", strings.Repeat("long", 5000)} {
		checkBuilt(t, impl.TextVal(s), impl.Val{Kind: 7, S: s})
	}
	for _, d := range append(validDecs(), invalidDecs()...) {
		want := impl.Val{Kind: 6, N: d.N, X: d.X}
		if d.X == 0 {
			want.Kind = 3
		}
		checkBuilt(t, impl.NumberVal(d), want)
	}
}

func TestListVal(t *testing.T) {
	checkBuilt(t, impl.ListVal(nil), impl.Val{Kind: 9})
	checkBuilt(t, impl.ListVal([]impl.Val{}), impl.Val{Kind: 9})
	for _, v := range append(validTrees(), invalidVals()...) {
		checkBuilt(t, impl.ListVal(vals(v)), listOf(v))
		checkBuilt(t, impl.ListVal(vals(v, nullVal(), v)), listOf(v, nullVal(), v))
		checkBuilt(t, impl.ListVal(v.L), listOf(v.L...))
	}
}

// TestListValSharesNoMemory changes the result, and then the argument, at every depth.
func TestListValSharesNoMemory(t *testing.T) {
	for _, v := range append(validTrees(), invalidVals()...) {
		l := vals(deepCopy(v, nil), textOf("a"), deepCopy(v, nil))
		got := impl.ListVal(l)
		before := fieldsText(listOf(l...))
		for _, place := range placesIn(&got) {
			place.N++
			place.L = append(place.L, impl.Val{})
		}
		if fieldsText(listOf(l...)) != before {
			t.Errorf("a change of the result of ListVal changes %s", before)
		}
		got = impl.ListVal(l)
		argument := listOf(l...)
		for _, place := range placesIn(&argument) {
			place.N++
		}
		if fieldsText(got) != before {
			t.Errorf("a change of the argument changes the result of ListVal, %s", before)
		}
	}
}

// TestListValSeparates passes elements that share memory with each other, or have room that others use.
func TestListValSeparates(t *testing.T) {
	shared := vals(textOf("a"), nullVal())
	got := impl.ListVal(vals(listOf(shared...), mapOf(shared...), tagOf(1, listOf(shared...))))
	got.L[0].L[0].S = "b"
	got.L[1].L[1] = intOf(5)
	got.L[2].L[0].L[0] = intOf(6)
	checkBuilt(t, got, listOf(listOf(textOf("b"), nullVal()), mapOf(textOf("a"), intOf(5)), tagOf(1, listOf(intOf(6), nullVal()))))

	room := vals(intOf(1), intOf(2), intOf(3))
	got = impl.ListVal(room[:1])
	got.L = append(got.L, intOf(9))
	inner := impl.ListVal(vals(listOf(room[:0]...), listOf(room[:2]...)))
	inner.L[0].L = append(inner.L[0].L, intOf(9))
	inner.L[1].L = append(inner.L[1].L, intOf(9))
	checkBuilt(t, listOf(room...), listOf(intOf(1), intOf(2), intOf(3)))
	checkBuilt(t, inner, listOf(listOf(intOf(9)), listOf(intOf(1), intOf(2), intOf(9))))
}
