package tests

import (
	"bytes"
	"math"
	"math/rand"
	"slices"
	"strings"
	"testing"

	"loop.example/g00502/impl"
)

func boolOf(n int) impl.Val {
	return impl.Val{Kind: 2, N: n}
}

func oddOf(n int) impl.Val {
	return impl.Val{Kind: 5, N: n}
}

// manyTags is a KTag with any number of elements; only one with a single element is valid.
func manyTags(n int, l ...impl.Val) impl.Val {
	return impl.Val{Kind: 11, N: n, L: l}
}

// shortHead writes the shortest head with this argument, or nothing if there is none.
func shortHead(major, n int) string {
	for _, wide := range []int{0, 1, 2, 4, 8} {
		if h := (impl.Head{Major: major, N: n, Wide: wide}); validHead(h) {
			return string(headEncoding(h))
		}
	}
	return ""
}

// packByDefinition restates PackTight.
func packByDefinition(v impl.Val) string {
	const most = 1000000000000000
	elements := ""
	for _, x := range v.L {
		elements += packByDefinition(x)
	}
	switch {
	case v.Kind == 1:
		return "\xf6"
	case v.Kind == 2 && v.N == 1:
		return "\xf5"
	case v.Kind == 2:
		return "\xf4"
	case v.Kind == 3 && -most <= v.N && v.N < 0:
		return shortHead(1, -1-v.N)
	case v.Kind == 3 && 0 <= v.N && v.N <= most:
		return shortHead(0, v.N)
	case v.Kind == 4 && validFlt(impl.Flt{M: v.N, E: v.X}) && v.N < 0:
		return "\xfa" + string(bigEncoding(1<<24+(v.X+16)<<16-v.N, 4))
	case v.Kind == 4 && validFlt(impl.Flt{M: v.N, E: v.X}):
		return "\xfa" + string(bigEncoding((v.X+16)<<16+v.N, 4))
	case v.Kind == 5 && 0 <= v.N && v.N <= 2:
		return "\xf8" + string(bigEncoding(32+v.N, 1))
	case v.Kind == 7:
		return shortHead(3, len(v.S)) + v.S
	case v.Kind == 8:
		return shortHead(2, len(v.S)) + v.S
	case v.Kind == 9:
		return shortHead(4, len(v.L)) + elements
	case v.Kind == 10:
		return shortHead(5, len(v.L)/2) + elements
	case v.Kind == 11 && 0 <= v.N && v.N <= most:
		return shortHead(6, v.N) + elements
	}
	return ""
}

// fitsTight restates FitsTight.
func fitsTight(v impl.Val) bool {
	if !validVal(v) || v.Kind == 6 {
		return false
	}
	for i, x := range v.L {
		if !fitsTight(x) {
			return false
		}
		if v.Kind == 10 && i%2 == 0 && i > 0 && packByDefinition(v.L[i-2]) >= packByDefinition(x) {
			return false
		}
	}
	return true
}

// sortedTight restates SortTight: it builds the result from nothing, and puts each pair behind all those whose names are not greater.
func sortedTight(v impl.Val) impl.Val {
	if v.Kind != 10 || len(v.L)%2 == 1 {
		return v
	}
	done, names := []impl.Val{}, []string{}
	for i := 0; i < len(v.L); i += 2 {
		name := packByDefinition(v.L[i])
		at := len(names)
		for at > 0 && names[at-1] > name {
			at--
		}
		names = slices.Insert(names, at, name)
		done = slices.Insert(done, 2*at, v.L[i], v.L[i+1])
	}
	v.L = done
	return v
}

// inOrder sorts all maps in a valid tree, and leaves out pairs with the name of an earlier one.
func inOrder(v impl.Val) impl.Val {
	l := []impl.Val{}
	for _, x := range v.L {
		l = append(l, inOrder(x))
	}
	v.L = l
	if v.Kind != 10 {
		return v
	}
	sorted := sortedTight(v)
	v.L = nil
	for i := 0; i < len(sorted.L); i += 2 {
		if i == 0 || packByDefinition(sorted.L[i-2]) != packByDefinition(sorted.L[i]) {
			v.L = append(v.L, sorted.L[i], sorted.L[i+1])
		}
	}
	return v
}

// tightIn reads the tree at the beginning of what WriteTight has written, and returns it and the rest, or false if there is none.
func tightIn(b []byte) (impl.Val, []byte, bool) {
	h, next, code := getHead(b, 0)
	if code != impl.ErGood || shortHead(h.Major, h.N) != string(b[:next]) && (h.Major != 7 || h.Wide != 4) {
		return impl.Val{}, b, false
	}
	v, rest, more := impl.Val{}, b[next:], 0
	switch {
	case h.Major == 0:
		v = intOf(h.N)
	case h.Major == 1:
		v = intOf(-1 - h.N)
	case h.Major <= 3 && h.N <= len(rest):
		v = impl.Val{Kind: map[int]int{2: 8, 3: 7}[h.Major], S: string(rest[:h.N])}
		rest = rest[h.N:]
	case h.Major == 4 && h.N <= len(rest):
		v, more = listOf(), h.N
	case h.Major == 5 && h.N <= len(rest):
		v, more = mapOf(), 2*h.N
	case h.Major == 6:
		v, more = manyTags(h.N), 1
	case h.Wide == 0 && (h.N == 20 || h.N == 21):
		v = boolOf(h.N - 20)
	case h.Wide == 0 && h.N == 22:
		v = nullVal()
	case h.Wide == 1 && h.N >= 32 && h.N <= 34:
		v = oddOf(h.N - 32)
	case h.Wide == 4:
		f, ok := bitsFlt(h.N)
		if !ok {
			return impl.Val{}, b, false
		}
		v = fltOf(f.M, f.E)
	default:
		return impl.Val{}, b, false
	}
	for range more {
		x, behind, ok := tightIn(rest)
		if !ok {
			return impl.Val{}, b, false
		}
		v.L, rest = append(v.L, x), behind
	}
	return v, rest, true
}

// oddTrees are trees for which PackTight leaves something out, or writes what another tree has as well.
func oddTrees() []impl.Val {
	a, null, dec := textOf("a"), nullVal(), decOf(5, -1)
	return []impl.Val{
		dec, listOf(dec), listOf(dec, dec), listOf(null, dec), listOf(dec, null), listOf(listOf(dec), null), mapOf(dec, null), mapOf(null, dec), mapOf(dec, dec), mapOf(a, null, dec, null), mapOf(listOf(dec), null), mapOf(mapOf(null, dec), null), tagOf(1, dec), tagOf(1, tagOf(2, listOf(a, dec))),
		mapOf(a), mapOf(null), mapOf(a, null, a), mapOf(a, a, a, a, a), mapOf(mapOf(a), null), mapOf(mapOf(), null, mapOf(a), null), mapOf(listOf(mapOf(a)), a), mapOf(dec), listOf(mapOf(a), mapOf(a)),
		manyTags(0), manyTags(1), manyTags(impl.MaxInt), manyTags(1, null, null), manyTags(1, a, null, a), manyTags(7, listOf(), dec), manyTags(7, dec, listOf()), mapOf(manyTags(1), null, tagOf(1, null), null), listOf(manyTags(0), manyTags(0, null, null)),
		tagOf(-1, a), tagOf(impl.MaxInt+1, a), listOf(a, tagOf(-1, null), a), manyTags(-1), manyTags(-1, a, a), manyTags(math.MinInt, a), manyTags(math.MaxInt, a),
		intOf(impl.MaxInt + 1), intOf(-impl.MaxInt - 1), intOf(math.MaxInt), intOf(math.MinInt), listOf(intOf(impl.MaxInt+1), null), oddOf(3), oddOf(-1), listOf(oddOf(3), oddOf(2), oddOf(-1)), fltOf(2, 0), fltOf(0, 1), fltOf(-2, 0), fltOf(0, -16), listOf(fltOf(2, 0), fltOf(1, 1)),
		boolOf(2), boolOf(-1), boolOf(20), boolOf(21), boolOf(1 << 32), boolOf(math.MinInt), {}, {Kind: -1}, {Kind: 12}, {Kind: 12, L: vals(a)}, {Kind: 6, L: vals(a)}, {Kind: 6, N: 1}, {N: 5, S: "a", L: vals(a)}, listOf(impl.Val{}, impl.Val{Kind: 12, N: 5}, null),
		textOf("\xff"), textOf("a\xc3"), listOf(textOf("\xed\xa0\x80")), {Kind: 7, S: "a", N: 5, X: 6, L: vals(a)}, {Kind: 3, N: 5, X: 6, S: "b", L: vals(a)}, {Kind: 1, N: 5, X: 6, S: "b", L: vals(a, a)}, {Kind: 9, N: 5, X: 6, S: "b", L: vals(a)}, {Kind: 10, N: 5, X: 6, S: "b", L: vals(a, a)}, {Kind: 11, N: 5, X: 6, S: "b", L: vals(a)},
	}
}

// randomTree has the kinds of the compact format and few different leaves, so that equal ones and such with equal beginnings are frequent.
// With wild, it also has a KDec, or values that are invalid.
func randomTree(random *rand.Rand, deep int, wild bool) impl.Val {
	leaves := vals(nullVal(), boolOf(0), boolOf(1), intOf(0), intOf(1), intOf(23), intOf(24), intOf(-1), intOf(-25), textOf(""), textOf("a"), textOf("b"), textOf("aa"), bytesOf(""), bytesOf("a"), bytesOf("\xff"), fltOf(1, 0), fltOf(-1, 0), oddOf(0), oddOf(2), listOf(), mapOf())
	if wild && random.Intn(6) == 0 {
		l := oddTrees()
		return l[random.Intn(len(l))]
	}
	kind := random.Intn(6)
	if deep <= 1 || kind < 2 {
		return leaves[random.Intn(len(leaves))]
	}
	if kind == 2 {
		return tagOf(random.Intn(30), randomTree(random, deep-1, wild))
	}
	v := listOf()
	for range 2 * random.Intn(4) {
		v.L = append(v.L, randomTree(random, deep-1, wild))
	}
	if kind < 5 {
		v.Kind = 10
		return v
	}
	v.L = v.L[:random.Intn(len(v.L)+1)]
	return v
}

// tightTrees are different trees that the compact format has.
func tightTrees() []impl.Val {
	l := validTrees()
	for _, v := range validTrees() {
		if fitsTight(v) {
			l = append(l, around(v)...)
		}
	}
	random := rand.New(rand.NewSource(13))
	for range 600 {
		l = append(l, randomTree(random, 4, false))
	}
	for i, v := range l {
		l[i] = inOrder(v)
	}
	return slices.DeleteFunc(unlike(l), func(v impl.Val) bool { return !fitsTight(v) })
}

// untightTrees are trees that the compact format does not have: invalid ones, those with a KDec, and those with names out of order.
func untightTrees() []impl.Val {
	a, b, null := textOf("a"), textOf("b"), nullVal()
	l := slices.Concat(validTrees(), invalidVals(), loadedNumbers(), oddTrees())
	for i, v := range l {
		if !fitsTight(v) && i%7 == 0 {
			l = append(l, around(v)...)
		}
	}
	random := rand.New(rand.NewSource(1313))
	for i := range 600 {
		l = append(l, randomTree(random, 4, i%2 == 0))
	}
	l = append(l,
		mapOf(b, null, a, null), mapOf(a, null, a, null), mapOf(a, null, b, null, b, null), mapOf(a, null, b, null, a, null), mapOf(b, null, a, null, b, null), mapOf(listOf(null), null, listOf(), null), mapOf(listOf(), null, listOf(), null),
		listOf(mapOf(b, null, a, null)), mapOf(a, mapOf(b, null, a, null)), mapOf(mapOf(b, null, a, null), a), tagOf(1, mapOf(b, null, a, null)), mapOf(mapOf(mapOf(b, null, a, null), null), null), mapOf(listOf(mapOf(a, a, a, a)), null),
	)
	return slices.DeleteFunc(unlike(l), fitsTight)
}

func TestPackTight(t *testing.T) {
	a, b, null := textOf("a"), textOf("b"), nullVal()
	for _, c := range []struct {
		v    impl.Val
		want string
	}{
		{null, "\xf6"}, {boolOf(0), "\xf4"}, {boolOf(1), "\xf5"}, {oddOf(0), "\xf8\x20"}, {oddOf(1), "\xf8\x21"}, {oddOf(2), "\xf8\x22"},
		{intOf(0), "\x00"}, {intOf(1), "\x01"}, {intOf(10), "\x0a"}, {intOf(100), "\x18\x64"}, {intOf(1000), "\x19\x03\xe8"}, {intOf(1000000), "\x1a\x00\x0f\x42\x40"}, {intOf(1000000000000), "\x1b\x00\x00\x00\xe8\xd4\xa5\x10\x00"}, {intOf(-1), "\x20"}, {intOf(-10), "\x29"}, {intOf(-100), "\x38\x63"}, {intOf(-1000), "\x39\x03\xe7"},
		{fltOf(0, 0), "\xfa\x00\x10\x00\x00"}, {fltOf(1, 0), "\xfa\x00\x10\x00\x01"}, {fltOf(-1, 0), "\xfa\x01\x10\x00\x01"}, {fltOf(-3, -1), "\xfa\x01\x0f\x00\x03"}, {fltOf(1, -16), "\xfa\x00\x00\x00\x01"}, {fltOf(-1, -16), "\xfa\x01\x00\x00\x01"}, {fltOf(65535, 30), "\xfa\x00\x2e\xff\xff"}, {fltOf(-65535, 30), "\xfa\x01\x2e\xff\xff"}, {fltOf(1, 45), "\xfa\x00\x3d\x00\x01"},
		{bytesOf(""), "\x40"}, {bytesOf("\x01\x02\x03\x04"), "\x44\x01\x02\x03\x04"}, {bytesOf("\xff"), "\x41\xff"}, {textOf(""), "\x60"}, {a, "\x61a"}, {textOf("IETF"), "\x64IETF"}, {textOf("\u6c34"), "\x63\xe6\xb0\xb4"}, {bytesOf("a"), "\x41a"},
		{listOf(), "\x80"}, {listOf(intOf(1), intOf(2), intOf(3)), "\x83\x01\x02\x03"}, {listOf(intOf(1), listOf(intOf(2), intOf(3)), listOf(intOf(4), intOf(5))), "\x83\x01\x82\x02\x03\x82\x04\x05"}, {listOf(listOf(listOf())), "\x81\x81\x80"}, {listOf(a, mapOf(b, textOf("c"))), "\x82\x61a\xa1\x61b\x61c"},
		{mapOf(), "\xa0"}, {mapOf(intOf(1), intOf(2), intOf(3), intOf(4)), "\xa2\x01\x02\x03\x04"}, {mapOf(a, intOf(1), b, listOf(intOf(2), intOf(3))), "\xa2\x61a\x01\x61b\x82\x02\x03"}, {mapOf(listOf(), mapOf(), mapOf(), listOf()), "\xa2\x80\xa0\xa0\x80"}, {mapOf(mapOf(a, null), listOf(null)), "\xa1\xa1\x61a\xf6\x81\xf6"}, {mapOf(tagOf(1, a), tagOf(2, b)), "\xa1\xc1\x61a\xc2\x61b"},
		{tagOf(0, null), "\xc0\xf6"}, {tagOf(23, a), "\xd7\x61a"}, {tagOf(24, a), "\xd8\x18\x61a"}, {tagOf(1, intOf(1363896240)), "\xc1\x1a\x51\x4b\x67\xb0"}, {tagOf(32, textOf("http://www.example.com")), "\xd8\x20\x76http://www.example.com"}, {tagOf(256, listOf(null)), "\xd9\x01\x00\x81\xf6"}, {tagOf(65536, null), "\xda\x00\x01\x00\x00\xf6"}, {tagOf(impl.MaxInt, null), "\xdb\x00\x03\x8d\x7e\xa4\xc6\x80\x00\xf6"}, {tagOf(1, tagOf(2, tagOf(3, mapOf()))), "\xc1\xc2\xc3\xa0"},
		// Names need not be different, nor in order.
		{mapOf(b, intOf(1), a, intOf(2)), "\xa2\x61b\x01\x61a\x02"}, {mapOf(a, intOf(1), a, intOf(1)), "\xa2\x61a\x01\x61a\x01"}, {mapOf(mapOf(b, null, a, null), null), "\xa1\xa2\x61b\xf6\x61a\xf6\xf6"},
		// A map with an odd number of elements.
		{mapOf(a), "\xa0\x61a"}, {mapOf(null, null, a), "\xa1\xf6\xf6\x61a"}, {mapOf(a, a, b, b, a), "\xa2\x61a\x61a\x61b\x61b\x61a"}, {listOf(mapOf(a), null), "\x82\xa0\x61a\xf6"},
		// A tag with no element, or several ones.
		{manyTags(0), "\xc0"}, {manyTags(1), "\xc1"}, {manyTags(24), "\xd8\x18"}, {manyTags(1, null, a), "\xc1\xf6\x61a"}, {manyTags(2, listOf(), listOf(), listOf()), "\xc2\x80\x80\x80"}, {listOf(manyTags(1), null), "\x82\xc1\xf6"},
		// A string that is no text.
		{textOf("\xff"), "\x61\xff"}, {textOf("a\xc3"), "\x62a\xc3"}, {mapOf(textOf("\x80"), textOf("\xed\xa0\x80")), "\xa1\x61\x80\x63\xed\xa0\x80"},
		// Every N other than 1 is false.
		{boolOf(2), "\xf4"}, {boolOf(-1), "\xf4"}, {boolOf(21), "\xf4"}, {boolOf(math.MaxInt), "\xf4"}, {boolOf(math.MinInt), "\xf4"}, {boolOf(1<<32 + 1), "\xf4"},
		// Values without an encoding.
		{decOf(5, -1), ""}, {decOf(1, 0), ""}, {decOf(0, 0), ""}, {impl.Val{Kind: 6, L: vals(a)}, ""}, {impl.Val{}, ""}, {impl.Val{Kind: -1}, ""}, {impl.Val{Kind: 12}, ""}, {impl.Val{Kind: 13, N: 1, S: "a", L: vals(a)}, ""}, {impl.Val{Kind: math.MaxInt}, ""}, {impl.Val{Kind: math.MinInt}, ""}, {impl.Val{Kind: 1<<32 + 1}, ""}, {impl.Val{Kind: 1<<8 + 1}, ""}, {impl.Val{L: vals(a)}, ""},
		{intOf(impl.MaxInt + 1), ""}, {intOf(-impl.MaxInt - 1), ""}, {intOf(math.MaxInt), ""}, {intOf(math.MinInt), ""}, {oddOf(3), ""}, {oddOf(-1), ""}, {oddOf(-32), ""}, {oddOf(256), ""}, {oddOf(math.MaxInt), ""}, {oddOf(math.MinInt), ""},
		{tagOf(-1, a), ""}, {tagOf(impl.MaxInt+1, a), ""}, {tagOf(math.MaxInt, a), ""}, {tagOf(math.MinInt, a), ""}, {manyTags(-1), ""}, {manyTags(-1, a, a), ""}, {tagOf(-5, listOf(a)), ""},
		// Heads that are invalid.
		{fltOf(2, 0), ""}, {fltOf(0, 1), ""}, {fltOf(0, -16), ""}, {fltOf(65537, 0), ""}, {fltOf(1, -17), ""}, {fltOf(1, 46), ""}, {fltOf(-4, 3), ""}, {fltOf(65535, 31), ""}, {fltOf(math.MaxInt, 0), ""}, {fltOf(math.MinInt, math.MinInt), ""},
		// They contribute no bytes, but count in the head of what they are in.
		{listOf(decOf(5, -1)), "\x81"}, {listOf(null, decOf(5, -1), null), "\x83\xf6\xf6"}, {listOf(impl.Val{}, intOf(impl.MaxInt+1), fltOf(2, 0), oddOf(3)), "\x84"}, {mapOf(decOf(5, -1), null), "\xa1\xf6"}, {mapOf(null, decOf(5, -1)), "\xa1\xf6"}, {mapOf(a, null, decOf(5, -1), decOf(5, -1)), "\xa2\x61a\xf6"}, {mapOf(decOf(5, -1)), "\xa0"}, {tagOf(1, decOf(5, -1)), "\xc1"}, {listOf(tagOf(-1, a), b), "\x82\x61b"}, {listOf(a, listOf(mapOf(b, tagOf(1, decOf(5, -1)))), a), "\x83\x61a\x81\xa1\x61b\xc1\x61a"}, {listOf(impl.Val{Kind: 12, L: vals(a)}), "\x81"},
		// Fields that the kind does not use.
		{impl.Val{Kind: 1, N: 5, X: 6, S: "b", L: vals(a)}, "\xf6"}, {impl.Val{Kind: 2, N: 1, X: 6, S: "b", L: vals(a)}, "\xf5"}, {impl.Val{Kind: 3, N: 5, X: 6, S: "b", L: vals(a)}, "\x05"}, {impl.Val{Kind: 4, N: 1, S: "b", L: vals(a)}, "\xfa\x00\x10\x00\x01"}, {impl.Val{Kind: 5, N: 1, X: 6, S: "b", L: vals(a)}, "\xf8\x21"}, {impl.Val{Kind: 7, N: 5, X: 6, S: "b", L: vals(a)}, "\x61b"}, {impl.Val{Kind: 8, N: 5, X: 6, S: "b", L: vals(a)}, "\x41b"}, {impl.Val{Kind: 9, N: 5, X: 6, S: "b", L: vals(a)}, "\x81\x61a"}, {impl.Val{Kind: 10, N: 5, X: 6, S: "b", L: vals(a, a)}, "\xa1\x61a\x61a"}, {impl.Val{Kind: 11, N: 5, X: 6, S: "b", L: vals(a)}, "\xc5\x61a"},
	} {
		if got := impl.PackTight(c.v); string(got) != c.want {
			t.Errorf("PackTight(%s) = %q, want %q", fieldsText(c.v), got, c.want)
		}
		if got := packByDefinition(c.v); got != c.want {
			t.Errorf("the test packs %s as %q, want %q", fieldsText(c.v), got, c.want)
		}
	}
}

// TestPackTightByDefinition compares with the restated chapter, for valid and invalid trees, at any depth.
func TestPackTightByDefinition(t *testing.T) {
	l := slices.Concat(unlikeTrees(), oddTrees(), unusedFields(), testMaps()[:400])
	random := rand.New(rand.NewSource(131))
	for range 1000 {
		l = append(l, randomTree(random, 5, true))
	}
	for i, v := range l {
		trees := vals(v, deepCopy(v, []impl.Val{}))
		if i%3 == 0 {
			trees = append(trees, around(v)...)
		}
		for _, tree := range trees {
			if got, want := string(impl.PackTight(tree)), packByDefinition(tree); got != want {
				t.Errorf("PackTight(%s) = %q, want %q", fieldsText(tree), got, want)
			}
		}
	}
}

func TestPackTightNumbers(t *testing.T) {
	for _, c := range []struct {
		n                   int
		plus, minus, tagged string
	}{
		{0, "\x00", "\x20", "\xc0"}, {22, "\x16", "\x36", "\xd6"}, {23, "\x17", "\x37", "\xd7"}, {24, "\x18\x18", "\x38\x18", "\xd8\x18"}, {25, "\x18\x19", "\x38\x19", "\xd8\x19"},
		{254, "\x18\xfe", "\x38\xfe", "\xd8\xfe"}, {255, "\x18\xff", "\x38\xff", "\xd8\xff"}, {256, "\x19\x01\x00", "\x39\x01\x00", "\xd9\x01\x00"}, {257, "\x19\x01\x01", "\x39\x01\x01", "\xd9\x01\x01"},
		{65534, "\x19\xff\xfe", "\x39\xff\xfe", "\xd9\xff\xfe"}, {65535, "\x19\xff\xff", "\x39\xff\xff", "\xd9\xff\xff"}, {65536, "\x1a\x00\x01\x00\x00", "\x3a\x00\x01\x00\x00", "\xda\x00\x01\x00\x00"},
		{4294967295, "\x1a\xff\xff\xff\xff", "\x3a\xff\xff\xff\xff", "\xda\xff\xff\xff\xff"}, {4294967296, "\x1b\x00\x00\x00\x01\x00\x00\x00\x00", "\x3b\x00\x00\x00\x01\x00\x00\x00\x00", "\xdb\x00\x00\x00\x01\x00\x00\x00\x00"},
		{impl.MaxInt - 1, "\x1b\x00\x03\x8d\x7e\xa4\xc6\x7f\xff", "\x3b\x00\x03\x8d\x7e\xa4\xc6\x7f\xff", "\xdb\x00\x03\x8d\x7e\xa4\xc6\x7f\xff"},
		// -1-MaxInt is beyond the range, although there is a head for it.
		{impl.MaxInt, "\x1b\x00\x03\x8d\x7e\xa4\xc6\x80\x00", "", "\xdb\x00\x03\x8d\x7e\xa4\xc6\x80\x00"},
		{impl.MaxInt + 1, "", "", ""}, {1 << 53, "", "", ""}, {math.MaxInt - 1, "", "", ""}, {math.MaxInt, "", "", ""},
	} {
		plus, minus, tagged := impl.PackTight(intOf(c.n)), impl.PackTight(intOf(-1-c.n)), impl.PackTight(manyTags(c.n))
		if string(plus) != c.plus || string(minus) != c.minus || string(tagged) != c.tagged {
			t.Errorf("PackTight of the integers %d and %d and the tag %d = %q, %q, %q, want %q, %q, %q", c.n, -1-c.n, c.n, plus, minus, tagged, c.plus, c.minus, c.tagged)
		}
		if c.plus == "" {
			continue
		}
		for _, v := range vals(intOf(c.n), tagOf(c.n, intOf(c.n))) {
			if !impl.FitsTight(v) || impl.SizeTight(v) != len(packByDefinition(v)) {
				t.Errorf("FitsTight and SizeTight(%s) = %t, %d", fieldsText(v), impl.FitsTight(v), impl.SizeTight(v))
			}
		}
	}
	if got := impl.WriteTight(intOf(-impl.MaxInt)); string(got) != "\x3b\x00\x03\x8d\x7e\xa4\xc6\x7f\xff" {
		t.Errorf("WriteTight of -MaxInt = %q", got)
	}
	l := edgeInts()
	for n := -70000; n <= 70000; n += 1 + n/9999*n/9999 {
		l = append(l, n)
	}
	for _, n := range l {
		for kind := 0; kind <= 12; kind++ {
			for _, v := range vals(impl.Val{Kind: kind, N: n}, impl.Val{Kind: kind, N: n, X: -3}, impl.Val{Kind: kind, N: n, L: vals(nullVal())}) {
				want := packByDefinition(v)
				if got := impl.PackTight(v); string(got) != want {
					t.Errorf("PackTight(%s) = %q, want %q", fieldsText(v), got, want)
				}
				if !fitsTight(v) {
					want = ""
				}
				if got := impl.WriteTight(v); string(got) != want {
					t.Errorf("WriteTight(%s) = %q, want %q", fieldsText(v), got, want)
				}
			}
		}
	}
}

func TestPackTightFlts(t *testing.T) {
	for _, f := range append(someFlts(), invalidFlts()...) {
		v := fltOf(f.M, f.E)
		want := packByDefinition(v)
		if (want != "") != validFlt(f) {
			t.Errorf("the test packs %v as %q", f, want)
		}
		if pack, write := impl.PackTight(v), impl.WriteTight(v); string(pack) != want || string(write) != want || impl.FitsTight(v) != validFlt(f) {
			t.Errorf("PackTight, WriteTight and FitsTight(%s) = %q, %q, %t, want %q", fieldsText(v), pack, write, impl.FitsTight(v), want)
		}
	}
}

// TestPackTightLengths has strings, lists and maps of lengths around the limits of the width.
func TestPackTightLengths(t *testing.T) {
	for _, c := range []struct {
		n    int
		info string
	}{
		{0, "\x00"}, {1, "\x01"}, {22, "\x16"}, {23, "\x17"}, {24, "\x18\x18"}, {25, "\x18\x19"}, {255, "\x18\xff"}, {256, "\x19\x01\x00"}, {65535, "\x19\xff\xff"}, {65536, "\x1a\x00\x01\x00\x00"}, {100000, "\x1a\x00\x01\x86\xa0"},
	} {
		s := strings.Repeat("x", c.n)
		nulls := slices.Repeat(vals(nullVal()), 2*c.n+1)
		written := strings.Repeat("\xf6", 2*c.n+1)
		for _, x := range []struct {
			v     impl.Val
			major int
			want  string
			fits  bool
		}{
			{bytesOf(s), 2, s, true}, {textOf(s), 3, s, true}, {listOf(nulls[:c.n]...), 4, written[:c.n], true},
			{mapOf(nulls[:2*c.n]...), 5, written[:2*c.n], c.n < 2}, {mapOf(nulls...), 5, written, false},
		} {
			want := string([]byte{byte(32*x.major) + c.info[0]}) + c.info[1:] + x.want
			got := impl.PackTight(x.v)
			if string(got) != want {
				t.Errorf("PackTight of a value with %d parts and the major type %d has %d bytes and begins with %.20q, want %d bytes and %.20q", c.n, x.major, len(got), got, len(want), want)
			}
			if !x.fits {
				want = ""
			}
			if impl.FitsTight(x.v) != x.fits || impl.SizeTight(x.v) != len(want) || string(impl.WriteTight(x.v)) != want {
				t.Errorf("FitsTight and SizeTight of a value with %d parts and the major type %d = %t, %d, want %t, %d", c.n, x.major, impl.FitsTight(x.v), impl.SizeTight(x.v), x.fits, len(want))
			}
		}
	}
}

func TestFitsTight(t *testing.T) {
	good, bad := tightTrees(), untightTrees()
	if len(good) < 1000 || len(bad) < 1000 {
		t.Fatalf("only %d and %d trees", len(good), len(bad))
	}
	for _, v := range good {
		for _, tree := range vals(v, deepCopy(v, []impl.Val{})) {
			want := packByDefinition(tree)
			if !impl.FitsTight(tree) || string(impl.WriteTight(tree)) != want || string(impl.PackTight(tree)) != want || impl.SizeTight(tree) != len(want) {
				t.Errorf("FitsTight, WriteTight and SizeTight(%s) = %t, %q, %d, want true, %q, %d", fieldsText(tree), impl.FitsTight(tree), impl.WriteTight(tree), impl.SizeTight(tree), want, len(want))
			}
		}
	}
	for _, v := range bad {
		if impl.FitsTight(v) || len(impl.WriteTight(v)) != 0 || impl.SizeTight(v) != 0 {
			t.Errorf("FitsTight, WriteTight and SizeTight(%s) = %t, %q, %d, want false, nothing, 0", fieldsText(v), impl.FitsTight(v), impl.WriteTight(v), impl.SizeTight(v))
		}
	}
}

// tightNames are names of which each has an encoding that is less than that of the next one.
func tightNames() []impl.Val {
	a, b, null := textOf("a"), textOf("b"), nullVal()
	zero, one, two := intOf(0), intOf(1), intOf(2)
	return vals(
		zero, one, intOf(23), intOf(24), intOf(255), intOf(256), intOf(65535), intOf(65536), intOf(4294967295), intOf(4294967296), intOf(impl.MaxInt), intOf(-1), intOf(-24), intOf(-25), intOf(-256), intOf(-257), intOf(-65537), intOf(-4294967297), intOf(-impl.MaxInt),
		bytesOf(""), bytesOf("\x00"), bytesOf("\xff"), bytesOf("\x00\x00"), textOf(""), textOf("\x00"), a, b, textOf("aa"), textOf("ab"), textOf("b\x00"), textOf("é"), textOf("aaa"),
		// Lists with fewer elements come first, whatever these are; LessVal begins with the elements.
		listOf(), listOf(zero), listOf(one), listOf(intOf(-1)), listOf(a), listOf(listOf()), listOf(listOf(zero)), listOf(listOf(listOf(null))), listOf(listOf(zero, zero)), listOf(mapOf()), listOf(mapOf(one, two)), listOf(tagOf(0, null)), listOf(null), listOf(fltOf(1, 0)),
		listOf(zero, zero), listOf(one, zero), listOf(one, one), listOf(one, two), listOf(one, a), listOf(one, listOf()), listOf(two, one), listOf(a, one), listOf(listOf(), null), listOf(listOf(zero), zero), listOf(null, zero), listOf(zero, zero, zero), listOf(null, null, null), listOf(slices.Repeat(vals(zero), 23)...), listOf(slices.Repeat(vals(zero), 24)...),
		mapOf(), mapOf(zero, zero), mapOf(zero, null), mapOf(one, zero), mapOf(one, listOf()), mapOf(a, null), mapOf(listOf(), null), mapOf(listOf(null), null), mapOf(listOf(zero, zero), zero), mapOf(mapOf(), null), mapOf(mapOf(a, null), zero), mapOf(tagOf(1, a), null), mapOf(zero, zero, one, one), mapOf(a, zero, listOf(), zero),
		tagOf(0, zero), tagOf(0, listOf()), tagOf(0, null), tagOf(1, zero), tagOf(1, tagOf(0, null)), tagOf(1, tagOf(1, zero)), tagOf(23, zero), tagOf(24, zero), tagOf(256, zero), tagOf(65536, zero), tagOf(impl.MaxInt, zero),
		boolOf(0), boolOf(1), null, oddOf(0), oddOf(1), oddOf(2),
		// Floating-point numbers are in the order of their bits, and not of the numbers.
		fltOf(1, -16), fltOf(65535, -16), fltOf(1, -15), fltOf(5, -1), fltOf(0, 0), fltOf(1, 0), fltOf(3, 0), fltOf(1, 1), fltOf(65535, 30), fltOf(1, 45), fltOf(-1, -16), fltOf(-1, 0), fltOf(-3, 0), fltOf(-1, 45),
	)
}

func TestNamesInOrder(t *testing.T) {
	names := tightNames()
	all, reversed := mapOf(), mapOf()
	for i, x := range names {
		all.L = append(all.L, x, intOf(i))
		reversed.L = append(vals(x, intOf(i)), reversed.L...)
		for j, y := range names {
			want := i < j
			if got := impl.LessTight(x, y); got != want {
				t.Errorf("LessTight(%s, %s) = %t", fieldsText(x), fieldsText(y), got)
			}
			for _, v := range vals(mapOf(x, y, y, x), listOf(mapOf(x, nullVal(), y, nullVal())), mapOf(mapOf(x, nullVal(), y, nullVal()), x), tagOf(1, mapOf(nullVal(), mapOf(x, nullVal(), y, nullVal())))) {
				if got := impl.FitsTight(v); got != want {
					t.Errorf("FitsTight(%s) = %t", fieldsText(v), got)
				}
			}
		}
		// One name out of order among all others is enough.
		moved := mapOf()
		for j, y := range names {
			if j != i {
				moved.L = append(moved.L, y, nullVal())
			}
		}
		for _, at := range []int{0, len(names) / 2, len(names) - 1} {
			m := mapOf(slices.Insert(slices.Clone(moved.L), 2*at, x, nullVal())...)
			if got := impl.FitsTight(m); got != (at == i) {
				t.Errorf("FitsTight = %t with name %d at %d", got, i, at)
			}
		}
		twice := mapOf(slices.Insert(slices.Clone(moved.L), 2*i, x, nullVal(), x, nullVal())...)
		if impl.FitsTight(twice) {
			t.Errorf("FitsTight = true with the name %s twice", fieldsText(x))
		}
	}
	if !impl.FitsTight(all) || impl.FitsTight(reversed) {
		t.Errorf("FitsTight of all names = %t, and %t of the reversed ones", impl.FitsTight(all), impl.FitsTight(reversed))
	}
	checkVal(t, "SortTight of all names", impl.SortTight(reversed), all)
	checkVal(t, "SortTight of all names in order", impl.SortTight(all), all)
}

// TestFitsTightAtAnyPlace puts values of every kind at every place of trees, also at those of names.
func TestFitsTightAtAnyPlace(t *testing.T) {
	a, null := textOf("a"), nullVal()
	put := vals(null, boolOf(1), intOf(7), fltOf(3, -1), oddOf(1), decOf(5, -1), a, textOf("zz"), textOf("\xff"), bytesOf("a"), listOf(), listOf(a), listOf(decOf(5, -1)), mapOf(), mapOf(a, null), mapOf(a), mapOf(a, null, a, null), mapOf(textOf("b"), null, a, null), mapOf(decOf(5, -1), null), tagOf(1, a), manyTags(1), manyTags(1, a, a), fltOf(2, 0), impl.Val{}, impl.Val{Kind: 12}, impl.Val{Kind: 7, S: "c", N: 1})
	for i, v := range tightTrees() {
		if i%11 != 0 || len(placesIn(&v)) > 40 {
			continue
		}
		for k := range placesIn(&v) {
			for _, x := range put {
				changed := deepCopy(v, nil)
				*placesIn(&changed)[k] = x
				want, fits := packByDefinition(changed), fitsTight(changed)
				if x.Kind == 6 && fits {
					t.Errorf("the test takes %s although it contains a KDec", fieldsText(changed))
				}
				if got := impl.PackTight(changed); string(got) != want {
					t.Errorf("PackTight(%s) = %q, want %q", fieldsText(changed), got, want)
				}
				if !fits {
					want = ""
				}
				if impl.FitsTight(changed) != fits || string(impl.WriteTight(changed)) != want || impl.SizeTight(changed) != len(want) {
					t.Errorf("FitsTight, WriteTight and SizeTight(%s) = %t, %q, %d, want %t, %q", fieldsText(changed), impl.FitsTight(changed), impl.WriteTight(changed), impl.SizeTight(changed), fits, want)
				}
			}
		}
	}
}

// TestTightTreesDiffer holds promise 13: no two trees have the same encoding. Each encoding can even be taken apart again without knowing its end.
func TestTightTreesDiffer(t *testing.T) {
	seen := map[string]string{}
	l := append(tightTrees(), tightNames()...)
	for _, v := range l {
		b, fields := impl.WriteTight(v), fieldsText(v)
		if other, again := seen[string(b)]; again && other != fields {
			t.Errorf("%s and %s are both %q", fields, other, b)
		}
		seen[string(b)] = fields
		for _, more := range []string{"", "\x00", "\xff\xff", string(b)} {
			got, rest, ok := tightIn(append(slices.Clone(b), more...))
			if !ok || fieldsText(got) != fields || string(rest) != more {
				t.Errorf("%q, which was %s, is read as %s, and %q is left", b, fields, fieldsText(got), rest)
			}
		}
	}
	checkNoBeginnings(t, seen)
}

// checkNoBeginnings checks that no encoding is empty or the beginning of another one.
func checkNoBeginnings(t *testing.T, seen map[string]string) {
	t.Helper()
	l := []string{}
	for b := range seen {
		l = append(l, b)
	}
	slices.Sort(l)
	for i, b := range l {
		// In this order, a beginning is right before a string that begins with it.
		if b == "" || i > 0 && strings.HasPrefix(b, l[i-1]) {
			t.Errorf("the encoding %q of %s is that of %s, and more", b, seen[b], seen[l[max(i, 1)-1]])
		}
	}
}

// TestSmallTightTrees goes through all trees of up to two levels above these leaves, and many of three levels.
func TestSmallTightTrees(t *testing.T) {
	leaves := vals(nullVal(), boolOf(1), intOf(0), intOf(24), intOf(-1), textOf(""), textOf("a"), bytesOf("a"), fltOf(1, 0), oddOf(0))
	inner := slices.Clone(leaves)
	for i, x := range leaves {
		inner = append(inner, listOf(x), tagOf(0, x))
		for j, y := range leaves {
			inner = append(inner, mapOf(x, y), listOf(x, y), mapOf(x, leaves[1], y, leaves[(i+j)%3]))
		}
	}
	inner = append(inner, listOf(), mapOf())
	all := slices.Clone(inner)
	for i, x := range inner {
		all = append(all, listOf(x), tagOf(0, x), tagOf(24, x))
		for j, y := range inner {
			if (i+j)%3 == 0 || i < len(leaves) {
				all = append(all, listOf(x, y), mapOf(x, y), mapOf(x, nullVal(), y, nullVal()))
			}
		}
	}
	seen, fitting := map[string]string{}, 0
	for _, v := range all {
		b, fields := string(impl.WriteTight(v)), fieldsText(v)
		if impl.FitsTight(v) != fitsTight(v) || (b == "") == fitsTight(v) {
			t.Fatalf("FitsTight(%s) = %t, and its encoding is %q", fields, impl.FitsTight(v), b)
		}
		if b == "" {
			continue
		}
		fitting++
		if other, again := seen[b]; again && other != fields {
			t.Fatalf("%s and %s are both %q", fields, other, b)
		}
		seen[b] = fields
		if got := string(impl.PackTight(v)); got != b {
			t.Fatalf("PackTight(%s) = %q, want %q", fields, got, b)
		}
	}
	if fitting < 60000 || fitting > len(all)-20000 {
		t.Errorf("%d of %d trees fit", fitting, len(all))
	}
	checkNoBeginnings(t, seen)
}

func TestSortTight(t *testing.T) {
	a, b, c, null := textOf("a"), textOf("b"), textOf("c"), nullVal()
	one, two, three, four := intOf(1), intOf(2), intOf(3), intOf(4)
	dec, other := decOf(5, -1), decOf(7, -1)
	for _, x := range []struct{ v, want impl.Val }{
		{mapOf(), mapOf()}, {mapOf(a, one), mapOf(a, one)}, {mapOf(b, one, a, two), mapOf(a, two, b, one)}, {mapOf(c, one, a, two, b, three), mapOf(a, two, b, three, c, one)}, {mapOf(b, intOf(-1), intOf(9), boolOf(1)), mapOf(intOf(9), boolOf(1), b, intOf(-1))},
		// The order is that of the encodings: shorter strings and lists first, a text before a null.
		{mapOf(textOf("aa"), one, b, two), mapOf(b, two, textOf("aa"), one)}, {mapOf(null, one, a, two, intOf(-1), three, intOf(1000), four), mapOf(intOf(1000), four, intOf(-1), three, a, two, null, one)}, {mapOf(fltOf(-1, 0), one, fltOf(1, 1), two, fltOf(3, -1), three), mapOf(fltOf(3, -1), three, fltOf(1, 1), two, fltOf(-1, 0), one)},
		{mapOf(listOf(one, one), one, listOf(two), two), mapOf(listOf(two), two, listOf(one, one), one)}, {mapOf(listOf(listOf(one, one)), one, listOf(listOf(two)), two, listOf(), three), mapOf(listOf(), three, listOf(listOf(two)), two, listOf(listOf(one, one)), one)}, {mapOf(listOf(null, one), one, listOf(null), two, listOf(null, null), three, listOf(one, null), four), mapOf(listOf(null), two, listOf(one, null), four, listOf(null, one), one, listOf(null, null), three)},
		{mapOf(mapOf(a, one, b, one), one, mapOf(c, one), two, mapOf(), three), mapOf(mapOf(), three, mapOf(c, one), two, mapOf(a, one, b, one), one)}, {mapOf(tagOf(2, a), one, tagOf(1, b), two, tagOf(1, listOf()), three, tagOf(1, a), four), mapOf(tagOf(1, a), four, tagOf(1, b), two, tagOf(1, listOf()), three, tagOf(2, a), one)}, {mapOf(tagOf(0, null), one, mapOf(), two, listOf(), three, a, four), mapOf(a, four, listOf(), three, mapOf(), two, tagOf(0, null), one)},
		// Pairs with equal names keep their order.
		{mapOf(a, two, a, one), mapOf(a, two, a, one)}, {mapOf(b, four, a, three, b, two, a, one), mapOf(a, three, a, one, b, four, b, two)}, {mapOf(b, b, a, a, b, a, a, b), mapOf(a, a, a, b, b, b, b, a)}, {mapOf(listOf(b), two, listOf(a), three, listOf(b), one, listOf(a), one), mapOf(listOf(a), three, listOf(a), one, listOf(b), two, listOf(b), one)},
		// So do pairs with different names of which PackTight makes the same bytes.
		{mapOf(listOf(other), one, listOf(dec), two, listOf(impl.Val{}), three), mapOf(listOf(other), one, listOf(dec), two, listOf(impl.Val{}), three)}, {mapOf(listOf(null), one, listOf(other), two, listOf(dec), three, listOf(other), four), mapOf(listOf(other), two, listOf(dec), three, listOf(other), four, listOf(null), one)}, {mapOf(boolOf(2), one, boolOf(0), two, boolOf(1), three, boolOf(-1), four), mapOf(boolOf(2), one, boolOf(0), two, boolOf(-1), four, boolOf(1), three)}, {mapOf(listOf(one, dec), one, listOf(dec, one), two, listOf(dec, dec), three), mapOf(listOf(dec, dec), three, listOf(one, dec), one, listOf(dec, one), two)},
		{mapOf(mapOf(null, null, dec), one, mapOf(null, dec, null), two, mapOf(null, null), three), mapOf(mapOf(null, null, dec), one, mapOf(null, dec, null), two, mapOf(null, null), three)}, {mapOf(impl.Val{Kind: 7, S: "a", N: 5}, one, a, two, impl.Val{Kind: 7, S: "a", X: 5}, three), mapOf(impl.Val{Kind: 7, S: "a", N: 5}, one, a, two, impl.Val{Kind: 7, S: "a", X: 5}, three)},
		// No bytes at all come first.
		{mapOf(intOf(0), one, dec, two, other, three, intOf(impl.MaxInt+1), four), mapOf(dec, two, other, three, intOf(impl.MaxInt+1), four, intOf(0), one)}, {mapOf(impl.Val{Kind: 12}, one, fltOf(2, 0), two, tagOf(-1, a), three, oddOf(3), four), mapOf(impl.Val{Kind: 12}, one, fltOf(2, 0), two, tagOf(-1, a), three, oddOf(3), four)},
		// The bytes of a name may be a beginning of those of another one.
		{mapOf(mapOf(a, a, b), one, mapOf(a, a), two, mapOf(a, a, a), three), mapOf(mapOf(a, a), two, mapOf(a, a, a), three, mapOf(a, a, b), one)}, {mapOf(mapOf(a), one, mapOf(), two), mapOf(mapOf(), two, mapOf(a), one)}, {mapOf(manyTags(1, null, null), one, tagOf(1, null), two, manyTags(1), three), mapOf(manyTags(1), three, tagOf(1, null), two, manyTags(1, null, null), one)}, {mapOf(listOf(null), one, listOf(dec), two), mapOf(listOf(dec), two, listOf(null), one)}, {mapOf(listOf(a, b), one, listOf(a, dec), two, listOf(dec, dec), three), mapOf(listOf(dec, dec), three, listOf(a, dec), two, listOf(a, b), one)},
		// The maps within a map remain as they are.
		{mapOf(mapOf(b, one, a, two), mapOf(b, three, a, four), listOf(mapOf(b, one, a, two)), one), mapOf(listOf(mapOf(b, one, a, two)), one, mapOf(b, one, a, two), mapOf(b, three, a, four))},
		// Fields that a map does not use.
		{impl.Val{Kind: 10, N: 1, X: 2, S: "s", L: vals(b, one, a, two)}, impl.Val{Kind: 10, N: 1, X: 2, S: "s", L: vals(a, two, b, one)}},
		// A name without a value.
		{mapOf(b), mapOf(b)}, {mapOf(b, one, a), mapOf(b, one, a)}, {mapOf(c, one, b, two, a), mapOf(c, one, b, two, a)}, {mapOf(b, one, a, two, null), mapOf(b, one, a, two, null)},
		// No map.
		{listOf(b, one, a, two), listOf(b, one, a, two)}, {tagOf(1, mapOf(b, one, a, two)), tagOf(1, mapOf(b, one, a, two))}, {impl.Val{L: vals(b, one, a, two)}, impl.Val{L: vals(b, one, a, two)}}, {impl.Val{Kind: 11, L: vals(b, one, a, two)}, impl.Val{Kind: 11, L: vals(b, one, a, two)}},
	} {
		checkVal(t, "SortTight("+fieldsText(x.v)+")", impl.SortTight(x.v), x.want)
		checkVal(t, "the test's SortTight("+fieldsText(x.v)+")", sortedTight(x.v), x.want)
	}
	for _, v := range slices.Concat(testMaps(), otherVals(), oddTrees()) {
		checkVal(t, "SortTight("+fieldsText(v)+")", impl.SortTight(v), sortedTight(v))
	}
	for _, v := range slices.Concat(validTrees(), invalidVals()[:100], oddTrees()) {
		for _, tree := range around(v) {
			checkVal(t, "SortTight", impl.SortTight(tree), sortedTight(tree))
		}
	}
}

// TestSortTightIsStable gives every pair its number as its value. Some of the names differ, but not in their bytes.
func TestSortTightIsStable(t *testing.T) {
	names := slices.Concat(tightNames()[20:60], oddTrees(), testMaps()[:20])
	random := rand.New(rand.NewSource(1131))
	for range 60 {
		v := mapOf()
		for n := range 200 {
			v.L = append(v.L, names[random.Intn(len(names))], intOf(n))
		}
		got := impl.SortTight(v)
		checkVal(t, "SortTight of 200 pairs", got, sortedTight(v))
		checkVal(t, "SortTight of sorted pairs", impl.SortTight(got), got)
		for i := 2; i < len(got.L); i += 2 {
			before, name := impl.PackTight(got.L[i-2]), impl.PackTight(got.L[i])
			if impl.LessTight(got.L[i], got.L[i-2]) || bytes.Equal(before, name) && got.L[i-1].N >= got.L[i+1].N {
				t.Fatalf("SortTight puts pair %d before pair %d", got.L[i-1].N, got.L[i+1].N)
			}
		}
	}
}

// TestSortedMapsFit sorts all maps of trees from the inside to the outside: with different names, they fit.
func TestSortedMapsFit(t *testing.T) {
	random := rand.New(rand.NewSource(113))
	sorted := 0
	for range 3000 {
		v := randomTree(random, 4, false)
		places := placesIn(&v)
		slices.Reverse(places)
		for _, x := range places {
			*x = impl.SortTight(*x)
		}
		if impl.FitsTight(v) != fitsTight(v) {
			t.Errorf("FitsTight(%s) = %t", fieldsText(v), impl.FitsTight(v))
		}
		once := true
		for _, x := range placesIn(&v) {
			once = once && onceEach(*x)
		}
		if once != impl.FitsTight(v) {
			t.Errorf("FitsTight(%s) = %t after SortTight", fieldsText(v), !once)
		}
		if once && len(v.L) > 2 && v.Kind == 10 {
			sorted++
		}
	}
	if sorted < 300 {
		t.Errorf("only %d maps were sorted", sorted)
	}
}

func TestLessTight(t *testing.T) {
	all := slices.Concat(oddTrees(), unlikeTrees())
	l, names := []impl.Val{}, []string{}
	for i, v := range all {
		if i < len(oddTrees()) || i%4 == 0 {
			l, names = append(l, v), append(names, packByDefinition(v))
		}
	}
	for i, a := range l {
		for j, b := range l {
			if got := impl.LessTight(a, b); got != (names[i] < names[j]) {
				t.Fatalf("LessTight(%s, %s) = %t", fieldsText(a), fieldsText(b), got)
			}
		}
	}
}

func TestLessBytes(t *testing.T) {
	for _, c := range []struct {
		a, b string
		want bool
	}{
		{"", "", false}, {"", "\x00", true}, {"\x00", "", false}, {"\x01", "\x01\x00", true}, {"\x01\x00", "\x01", false}, {"a", "b", true}, {"b", "a", false}, {"a", "a", false}, {"b", "aa", false}, {"aa", "b", true}, {"\x7f", "\x80", true}, {"\x80", "\x7f", false}, {"\xff", "\x00", false}, {"\x00\xff", "\x01", true}, {"a\x00\xff", "a\x01", true}, {"abc", "abd", true}, {"abc", "ab", false}, {"ab", "abc", true},
	} {
		if got := impl.LessBytes([]byte(c.a), []byte(c.b)); got != c.want {
			t.Errorf("LessBytes(%q, %q) = %t", c.a, c.b, got)
		}
	}
	if impl.LessBytes(nil, nil) || impl.LessBytes(nil, []byte{}) || impl.LessBytes([]byte{}, nil) || !impl.LessBytes(nil, []byte{0}) || impl.LessBytes([]byte{0}, nil) {
		t.Error("nil is not treated as an empty slice")
	}
	l := texts("\x00\x01\x7f\x80\xff", 3)
	for _, x := range l {
		for _, y := range l {
			a, b := []byte(x), []byte(y)
			if got := impl.LessBytes(a, b); got != (x < y) {
				t.Fatalf("LessBytes(%q, %q) = %t", x, y, got)
			}
			if string(a) != x || string(b) != y {
				t.Fatalf("LessBytes changes %q and %q", x, y)
			}
		}
	}
	// Bytes behind the length do not count.
	whole := []byte("abcd")
	if impl.LessBytes(whole[:2], whole[:2:2]) || impl.LessBytes(whole[:2:2], whole[:2]) || !impl.LessBytes(whole[:2], whole[:3]) || impl.LessBytes(whole[1:2], whole[:4]) {
		t.Error("LessBytes reads bytes behind the length")
	}
}

// TestTightResultsAreNewMemory changes the results, and then the argument, at every depth.
func TestTightResultsAreNewMemory(t *testing.T) {
	a, b, null := textOf("a"), textOf("b"), nullVal()
	inner := listOf(listOf(a, null), mapOf(a, listOf(null)))
	for _, v := range append(validTrees(), mapOf(), mapOf(inner), mapOf(b, inner, a, inner), mapOf(b, inner, inner, inner, a, inner), mapOf(inner, a, inner), listOf(inner), tagOf(1, inner), impl.Val{Kind: 7, L: vals(inner)}) {
		tree := deepCopy(v, nil)
		before := fieldsText(tree)
		got := impl.SortTight(tree)
		for _, place := range placesIn(&got) {
			place.N++
			place.L = append(place.L, impl.Val{})
		}
		if after := fieldsText(tree); after != before {
			t.Errorf("a change of the result of SortTight changes %s to %s", before, after)
		}
		got = impl.SortTight(tree)
		want := fieldsText(got)
		packed, written := impl.PackTight(tree), impl.WriteTight(tree)
		bytesBefore := string(packed) + "|" + string(written)
		for _, place := range placesIn(&tree) {
			place.N++
			place.S += "x"
		}
		if fieldsText(got) != want || string(packed)+"|"+string(written) != bytesBefore {
			t.Errorf("a change of %s changes a result", before)
		}
	}
	first, second := impl.PackTight(inner), impl.PackTight(inner)
	third := impl.WriteTight(inner)
	for i := range first {
		first[i] = 0
	}
	_ = append(first[:len(first):cap(first)], "????????"...)
	if want := packByDefinition(inner); string(second) != want || string(third) != want || string(impl.PackTight(inner)) != want {
		t.Error("two encodings share memory")
	}
}

// TestSortTightSeparates passes values that share memory with each other, or have room that others use.
func TestSortTightSeparates(t *testing.T) {
	room := vals(intOf(1), intOf(2), intOf(3))
	a, b := listOf(room[:1]...), listOf(room[:2]...)
	sorted := impl.SortTight(mapOf(b, b, a, a))
	for i := range sorted.L {
		sorted.L[i].L = append(sorted.L[i].L, intOf(10+i))
		sorted.L[i].L[0].N = 20 + i
	}
	checkVal(t, "SortTight", sorted, mapOf(listOf(intOf(20), intOf(10)), listOf(intOf(21), intOf(11)), listOf(intOf(22), intOf(2), intOf(12)), listOf(intOf(23), intOf(2), intOf(13))))
	checkVal(t, "the room", listOf(room...), listOf(intOf(1), intOf(2), intOf(3)))
	// Elements behind the length are not there.
	whole := vals(textOf("b"), intOf(1), textOf("a"), intOf(2))
	cut := mapOf(whole[:2]...)
	checkVal(t, "SortTight of a cut map", impl.SortTight(cut), mapOf(textOf("b"), intOf(1)))
	if got := impl.WriteTight(cut); string(got) != "\xa1\x61b\x01" || !impl.FitsTight(cut) {
		t.Errorf("WriteTight of a cut map = %q", got)
	}
	checkVal(t, "the cut map", listOf(whole...), listOf(textOf("b"), intOf(1), textOf("a"), intOf(2)))
}

func TestArgumentsOfTightStay(t *testing.T) {
	for _, v := range slices.Concat(validTrees(), invalidVals(), oddTrees(), testMaps()[:200]) {
		before := fieldsText(v)
		impl.FitsTight(v)
		impl.PackTight(v)
		impl.WriteTight(v)
		impl.LessTight(v, v)
		impl.SortTight(v)
		impl.SizeTight(v)
		if after := fieldsText(v); after != before {
			t.Errorf("%s has become %s", before, after)
		}
	}
}

func TestDeepTight(t *testing.T) {
	const deep = 100000
	good, bad, other := chain(deep, textOf("a")), chain(deep, decOf(5, -1)), chain(deep, listOf())
	// Each list but the innermost value has its head and two nulls.
	if got := impl.SizeTight(good); !impl.FitsTight(good) || got != 3*(deep-1)+2 {
		t.Errorf("FitsTight and SizeTight of a deep tree = %t, %d", impl.FitsTight(good), got)
	}
	if got := len(impl.PackTight(bad)); impl.FitsTight(bad) || impl.SizeTight(bad) != 0 || got != 3*(deep-1) {
		t.Errorf("FitsTight of a deep tree with a KDec = %t, and PackTight has %d bytes", impl.FitsTight(bad), got)
	}
	if !impl.LessTight(good, other) || impl.LessTight(other, good) || impl.LessTight(good, good) {
		t.Error("LessTight is wrong for deep trees")
	}
	v := impl.SortTight(mapOf(other, intOf(1), good, intOf(2), other, intOf(3), textOf("a"), intOf(4)))
	if v.L[1].N != 4 || v.L[3].N != 2 || v.L[5].N != 1 || v.L[7].N != 3 || impl.FitsTight(v) {
		t.Error("deep names are treated differently")
	}
	if v.L = v.L[:6]; !impl.FitsTight(v) {
		t.Error("different deep names do not fit")
	}
}

// TestDeepNames has names inside of names. If each of them was packed anew for every one that it is in, this would take long.
func TestDeepNames(t *testing.T) {
	const deep = 50000
	good, bad := mapOf(), mapOf(intOf(2), nullVal(), intOf(1), nullVal())
	for range deep {
		good, bad = mapOf(intOf(1), nullVal(), good, nullVal()), mapOf(intOf(1), nullVal(), bad, nullVal())
	}
	if !impl.FitsTight(good) || impl.FitsTight(bad) || impl.SizeTight(good) != 4*deep+1 {
		t.Error("names inside of names are treated differently")
	}
	v := impl.SortTight(mapOf(bad, intOf(1), good, intOf(2)))
	if v.L[1].N != 2 || impl.FitsTight(v) || !impl.FitsTight(mapOf(listOf(nullVal(), good), nullVal(), good, nullVal())) || impl.FitsTight(mapOf(good, nullVal(), listOf(nullVal(), good), nullVal())) {
		t.Error("names inside of names are sorted differently")
	}
}

func TestWideTight(t *testing.T) {
	const wide = 100000
	v, reversed := mapOf(), mapOf()
	for n := range wide {
		v.L = append(v.L, intOf(n), boolOf(n%2))
		reversed.L = append(reversed.L, intOf(wide-1-n), boolOf((wide-1-n)%2))
	}
	// The names take 1, 2, 3 or 5 bytes, and the values 1 byte.
	if got, want := impl.SizeTight(v), 5+24+232*2+(65536-256)*3+(wide-65536)*5+wide; got != want {
		t.Errorf("SizeTight of a wide map = %d, want %d", got, want)
	}
	if impl.FitsTight(reversed) || !impl.SameVal(impl.SortTight(reversed), v) || !impl.SameVal(impl.SortTight(v), v) {
		t.Error("SortTight is wrong for a wide map")
	}
	v.L = append(v.L, intOf(wide-1), nullVal())
	if impl.FitsTight(v) || impl.SizeTight(v) != 0 {
		t.Error("FitsTight of a wide map with an equal name = true")
	}
}
