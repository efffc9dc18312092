package tests

import (
	"math"
	"slices"
	"strconv"
	"strings"
	"testing"

	"loop.example/g00502/impl"
)

// at and named build steps, and path joins them.
func at(n int) impl.Step {
	return impl.Step{At: n}
}

func named(n int) impl.Step {
	return impl.Step{At: n, Name: true}
}

func path(p ...impl.Step) []impl.Step {
	return p
}

// stepsText writes all fields of a path: two paths are equal if and only if their texts are.
func stepsText(p []impl.Step) string {
	b := strings.Builder{}
	for _, s := range p {
		b.WriteString("/" + strconv.Itoa(s.At))
		if s.Name {
			b.WriteString("~")
		}
	}
	return b.String()
}

// stepped restates StepVal: it looks for the element in the list that the step means.
func stepped(v impl.Val, s impl.Step) (impl.Val, bool) {
	names, others := []impl.Val{}, v.L
	if v.Kind == 10 {
		others = nil
		for i, x := range v.L {
			if i%2 == 0 {
				names = append(names, x)
			} else {
				others = append(others, x)
			}
		}
	}
	l := others
	if s.Name {
		l = names
	}
	for i, x := range l {
		if i == s.At {
			return x, true
		}
	}
	return impl.Val{}, false
}

// located is a value with its path and the text of that.
type located struct {
	v    impl.Val
	path []impl.Step
	text string
}

// locatedIn restates AllPaths and PathText, for the values in pre-order, as placesIn returns them.
func locatedIn(v impl.Val) []located {
	l := []located{{v: v, text: "$"}}
	for i, x := range v.L {
		step, text := at(i), "["+strconv.Itoa(i)+"]"
		switch v.Kind {
		case 10:
			number := strconv.Itoa(i / 2)
			text = ".#" + number
			if name := v.L[i-i%2]; name.Kind == 7 {
				text = "." + name.S
			}
			step = at(i / 2)
			if i%2 == 0 {
				step, text = named(i/2), text+"~"
			}
		case 11:
			text = "!"
		}
		for _, inner := range locatedIn(x) {
			l = append(l, located{inner.v, append(path(step), inner.path...), "$" + text + inner.text[1:]})
		}
	}
	return l
}

// pathTrees are valid and invalid trees of all shapes.
func pathTrees() []impl.Val {
	a, b, null := textOf("a"), textOf("b"), nullVal()
	l := append(validTrees(), invalidVals()...)
	for i, v := range l {
		if i%20 == 0 {
			l = append(l, around(v)...)
		}
	}
	return append(l,
		// Names without a value, at several depths and of several kinds.
		mapOf(a), mapOf(a, null, b), mapOf(a, null, b, null, a), mapOf(mapOf(a)), mapOf(mapOf(a, b, a), mapOf(b)), mapOf(a, mapOf(a, mapOf(a))), listOf(mapOf(listOf(a))), mapOf(null), mapOf(null, null, listOf(a, b)),
		// The L of other kinds.
		impl.Val{L: vals(a, mapOf(a, b), a)}, impl.Val{Kind: 7, S: "t", L: vals(mapOf(a, b))}, impl.Val{Kind: 8, L: vals(a, b)}, impl.Val{Kind: 3, L: vals(listOf(a), b)}, impl.Val{Kind: 11, L: vals(a, b, mapOf(a, b))}, impl.Val{Kind: 10, N: 1, X: 2, S: "s", L: vals(a, b)}, impl.Val{Kind: 10 + 1<<32, L: vals(a, b)}, impl.Val{Kind: -10, L: vals(a, b)}, mapOf(impl.Val{Kind: 7, S: "t", N: 1, L: vals(a, b)}, b),
		mapOf(a, null, a, null, a, null), mapOf(textOf("\xff"), null, textOf(""), null, textOf("~"), null, textOf("#1"), null, textOf("a.b[0]!"), null), mapOf(bytesOf("a"), listOf(a), tagOf(1, a), tagOf(2, b), a, mapOf(b, mapOf(a, b))),
	)
}

// otherSteps are steps of which most lead nowhere.
func otherSteps(v impl.Val) []impl.Step {
	l := []impl.Step{}
	n := len(v.L)
	for _, i := range []int{0, 1, n/2 - 1, n / 2, n/2 + 1, n - 1, n, n + 1, 2 * n, -1, -2, -n, math.MaxInt, math.MaxInt - 1, math.MinInt, math.MinInt + 1, math.MaxInt/2 + 1, math.MaxInt/2 + 2, math.MinInt / 2, 1 << 32, 1<<32 + 1, 1 << 31, 1 << 61, 1<<62 + 1} {
		l = append(l, at(i), named(i))
	}
	return l
}

func checkStepVal(t *testing.T, v impl.Val, s impl.Step) {
	t.Helper()
	got, ok := impl.StepVal(v, s)
	want, wantOk := stepped(v, s)
	if fieldsText(got) != fieldsText(want) || ok != wantOk {
		t.Errorf("StepVal(%s, %v) = %s, %t, want %s, %t", fieldsText(v), s, fieldsText(got), ok, fieldsText(want), wantOk)
	}
}

func TestStepVal(t *testing.T) {
	a, b, null, none := textOf("a"), textOf("b"), nullVal(), impl.Val{}
	one, two := intOf(1), intOf(2)
	m := mapOf(a, one, b, two)
	cut := mapOf(a, one, b)
	for _, c := range []struct {
		v    impl.Val
		s    impl.Step
		want impl.Val
		ok   bool
	}{
		{listOf(a, b), at(0), a, true}, {listOf(a, b), at(1), b, true}, {listOf(a, b), at(2), none, false}, {listOf(a, b), at(-1), none, false},
		{listOf(a, b), named(0), none, false}, {listOf(a, b), named(1), none, false}, {listOf(), at(0), none, false},
		// A step to a name, and one to its value.
		{m, named(0), a, true}, {m, at(0), one, true}, {m, named(1), b, true}, {m, at(1), two, true}, {m, named(2), none, false}, {m, at(2), none, false}, {m, at(3), none, false}, {m, named(3), none, false}, {m, at(-1), none, false}, {m, named(-1), none, false},
		{mapOf(), named(0), none, false}, {mapOf(), at(0), none, false}, {mapOf(listOf(a), mapOf(b, b)), named(0), listOf(a), true}, {mapOf(listOf(a), mapOf(b, b)), at(0), mapOf(b, b), true}, {mapOf(a, one, a, two), at(1), two, true}, {mapOf(a, one, a, two), at(0), one, true},
		// The last name has no value.
		{cut, named(0), a, true}, {cut, at(0), one, true}, {cut, named(1), b, true}, {cut, at(1), none, false}, {cut, at(2), none, false}, {cut, named(2), none, false}, {mapOf(a), named(0), a, true}, {mapOf(a), at(0), none, false}, {mapOf(a), named(1), none, false},
		{tagOf(5, a), at(0), a, true}, {tagOf(5, a), named(0), none, false}, {tagOf(5, a), at(1), none, false}, {tagOf(5, a), at(5), none, false}, {tagOf(0, m), at(0), m, true},
		{a, at(0), none, false}, {null, at(0), none, false}, {null, named(0), none, false}, {none, at(0), none, false}, {none, named(0), none, false}, {textOf("abc"), at(1), none, false},
		// A value that is no valid one is still led to.
		{listOf(none), at(0), none, true}, {mapOf(none, none), named(0), none, true}, {impl.Val{L: vals(a, b)}, at(1), b, true}, {impl.Val{L: vals(a, b)}, named(1), none, false}, {impl.Val{Kind: 11, L: vals(a, b)}, at(1), b, true}, {impl.Val{Kind: 3, L: vals(a)}, at(0), a, true}, {impl.Val{Kind: 11}, at(0), none, false},
		// Twice these numbers wrap around.
		{m, at(1 << 62), none, false}, {m, named(1 << 62), none, false}, {m, at(math.MinInt), none, false}, {m, named(math.MinInt), none, false}, {m, at(math.MaxInt), none, false}, {m, named(math.MaxInt), none, false}, {m, at(math.MinInt + 1), none, false}, {m, named(math.MinInt + 1), none, false}, {listOf(a), at(math.MinInt), none, false}, {listOf(a), at(1 << 32), none, false},
	} {
		got, ok := impl.StepVal(c.v, c.s)
		if fieldsText(got) != fieldsText(c.want) || ok != c.ok {
			t.Errorf("StepVal(%s, %v) = %s, %t, want %s, %t", fieldsText(c.v), c.s, fieldsText(got), ok, fieldsText(c.want), c.ok)
		}
	}
	for _, v := range append(pathTrees(), testMaps()[:300]...) {
		for n := -3; n <= min(len(v.L)+3, 40); n++ {
			checkStepVal(t, v, at(n))
			checkStepVal(t, v, named(n))
		}
		for _, s := range otherSteps(v) {
			checkStepVal(t, v, s)
		}
	}
}

// TestStepValOfLongMaps has a step to every name and every value.
func TestStepValOfLongMaps(t *testing.T) {
	m := mapOf()
	for n := range 1000 {
		m.L = append(m.L, intOf(n), intOf(-n))
	}
	cut := mapOf(m.L[:1999]...)
	for n := range 1003 {
		for _, v := range vals(m, cut) {
			name, ok := impl.StepVal(v, named(n))
			if ok != (n < 1000) || ok && fieldsText(name) != fieldsText(intOf(n)) {
				t.Errorf("the name %d of %d elements is %s, %t", n, len(v.L), fieldsText(name), ok)
			}
			value, ok := impl.StepVal(v, at(n))
			if ok != (2*n+1 < len(v.L)) || ok && fieldsText(value) != fieldsText(intOf(-n)) {
				t.Errorf("the value %d of %d elements is %s, %t", n, len(v.L), fieldsText(value), ok)
			}
		}
	}
}

func checkAtPath(t *testing.T, v impl.Val, p []impl.Step, want impl.Val, wantOk bool) {
	t.Helper()
	got, ok := impl.AtPath(v, p)
	if fieldsText(got) != fieldsText(want) || ok != wantOk {
		t.Errorf("AtPath(%s, %s) = %s, %t, want %s, %t", fieldsText(v), stepsText(p), fieldsText(got), ok, fieldsText(want), wantOk)
	}
}

func TestAtPath(t *testing.T) {
	a, b, none := textOf("a"), textOf("b"), impl.Val{}
	m := mapOf(a, listOf(intOf(7), mapOf(b, a, listOf(a, b))), mapOf(a, b), tagOf(1, mapOf(a, intOf(8))))
	for _, c := range []struct {
		v    impl.Val
		p    []impl.Step
		want impl.Val
		ok   bool
	}{
		// The empty path leads to v itself, whatever that is.
		{m, nil, m, true}, {m, path(), m, true}, {a, nil, a, true}, {none, nil, none, true}, {mapOf(a), nil, mapOf(a), true},
		{m, path(at(0), at(0)), intOf(7), true}, {m, path(at(0), at(1)), mapOf(b, a, listOf(a, b)), true}, {m, path(at(0), at(1), at(0)), a, true}, {m, path(at(0), at(1), named(0)), b, true}, {m, path(at(0), at(1), named(1)), listOf(a, b), true}, {m, path(at(0), at(1), named(1), at(1)), b, true},
		{m, path(named(1)), mapOf(a, b), true}, {m, path(named(1), named(0)), a, true}, {m, path(named(1), at(0)), b, true}, {m, path(at(1), at(0)), mapOf(a, intOf(8)), true}, {m, path(at(1), at(0), at(0)), intOf(8), true}, {m, path(at(1), at(0), named(0)), a, true},
		// A step leads nowhere: the first, a later, the last one.
		{m, path(at(2)), none, false}, {m, path(at(2), at(0)), none, false}, {m, path(at(0), at(2)), none, false}, {m, path(at(0), named(0)), none, false}, {m, path(at(0), named(0), at(0)), none, false}, {m, path(at(0), at(1), at(1)), none, false}, {m, path(at(0), at(1), at(1), at(0)), none, false}, {m, path(named(0), at(0)), none, false}, {m, path(at(0), at(0), at(0)), none, false}, {m, path(at(1), named(0)), none, false}, {m, path(at(1), at(1)), none, false}, {m, path(at(-1)), none, false}, {m, path(named(1), at(1)), none, false}, {m, path(named(1), named(1)), none, false},
		// A step that leads nowhere is not left out.
		{m, path(at(5), at(0), at(0)), none, false}, {m, path(at(0), at(9), at(0)), none, false}, {listOf(listOf(a), b), path(named(0), at(0), at(0)), none, false},
		{a, path(at(0)), none, false}, {listOf(), path(at(0)), none, false}, {mapOf(a), path(at(0)), none, false}, {mapOf(a), path(named(0)), a, true}, {mapOf(mapOf(mapOf(a))), path(named(0), named(0), named(0)), a, true}, {mapOf(mapOf(mapOf(a))), path(named(0), at(0)), none, false},
	} {
		checkAtPath(t, c.v, c.p, c.want, c.ok)
	}
	for _, v := range pathTrees() {
		for _, x := range locatedIn(v) {
			checkAtPath(t, v, x.path, x.v, true)
			if len(x.path) > 5 {
				continue
			}
			for _, s := range otherSteps(x.v) {
				want, ok := stepped(x.v, s)
				checkAtPath(t, v, append(slices.Clone(x.path), s), want, ok)
				if !ok {
					checkAtPath(t, v, append(slices.Clone(x.path), s, at(0)), impl.Val{}, false)
				}
			}
		}
	}
}

// numbered gives every value in a tree its number in pre-order, so that no two of them are equal.
func numbered(v impl.Val) impl.Val {
	tree := deepCopy(v, nil)
	for i, place := range placesIn(&tree) {
		place.X = i
	}
	return tree
}

// TestEveryValueHasOnePath holds promise 8: as many paths as values, all of them different, and each leads to its value.
func TestEveryValueHasOnePath(t *testing.T) {
	for _, v := range pathTrees() {
		tree := numbered(v)
		l := impl.AllPaths(tree)
		if len(l) != len(placesIn(&tree)) {
			t.Errorf("%d paths in %s", len(l), fieldsText(v))
		}
		seen := map[string]bool{}
		for i, p := range l {
			x, ok := impl.AtPath(tree, p.L)
			if !ok || x.X != i || seen[stepsText(p.L)] {
				t.Errorf("path %d of %s is %s and leads to %s, %t", i, fieldsText(v), stepsText(p.L), fieldsText(x), ok)
			}
			seen[stepsText(p.L)] = true
			if i > 0 && (!impl.LessPath(l[i-1].L, p.L) || impl.LessPath(p.L, l[i-1].L)) {
				t.Errorf("path %d of %s, %s, is not behind that before it, %s", i, fieldsText(v), stepsText(p.L), stepsText(l[i-1].L))
			}
		}
	}
}

// eachPath visits all paths of up to so many steps, with At from -1 to 4.
func eachPath(steps int, visit func(p []impl.Step)) {
	l := [][]impl.Step{{}}
	for range steps + 1 {
		longer := [][]impl.Step{}
		for _, p := range l {
			visit(p)
			for n := -1; n <= 4; n++ {
				longer = append(longer, append(slices.Clone(p), at(n)), append(slices.Clone(p), named(n)))
			}
		}
		l = longer
	}
}

// TestNoOtherPathLeadsAnywhere goes through all short paths: those of AllPaths lead to a value, and no others.
func TestNoOtherPathLeadsAnywhere(t *testing.T) {
	a, b, null := textOf("a"), textOf("b"), nullVal()
	for _, v := range []impl.Val{
		a, {}, listOf(), mapOf(), listOf(a), listOf(a, b, null), mapOf(a, b), mapOf(a), mapOf(a, b, a), mapOf(a, b, b, a), tagOf(3, a), {Kind: 11}, {Kind: 11, L: vals(a, b)}, {L: vals(a, mapOf(a, b))},
		listOf(listOf(a, b), mapOf(a, b), tagOf(1, a)), listOf(mapOf(a), mapOf(listOf(a, b))), mapOf(listOf(a, b), listOf(b), mapOf(a, b), mapOf(b)), mapOf(mapOf(a, b, a), mapOf(b), mapOf(a, b)), tagOf(0, tagOf(1, a)), tagOf(2, mapOf(b, a, b)), mapOf(tagOf(1, a), tagOf(2, listOf(a))), mapOf(a, null, mapOf(b, tagOf(1, null)), listOf(mapOf(null, null), null)),
	} {
		known := map[string]bool{}
		for _, p := range impl.AllPaths(v) {
			known[stepsText(p.L)] = true
		}
		found := 0
		eachPath(3, func(p []impl.Step) {
			_, ok := impl.AtPath(v, p)
			_, put := impl.PutAt(v, p, b)
			if ok != known[stepsText(p)] || put != ok {
				t.Errorf("AtPath and PutAt(%s, %s) = %t, %t", fieldsText(v), stepsText(p), ok, put)
			}
			if ok {
				found++
			}
		})
		if found != len(locatedIn(v)) {
			t.Errorf("%d paths lead to values of %s", found, fieldsText(v))
		}
	}
}

func TestAllPaths(t *testing.T) {
	a, b, null := textOf("a"), textOf("b"), nullVal()
	for _, c := range []struct {
		v    impl.Val
		want [][]impl.Step
	}{
		{null, [][]impl.Step{{}}}, {impl.Val{}, [][]impl.Step{{}}}, {listOf(), [][]impl.Step{{}}}, {mapOf(), [][]impl.Step{{}}}, {impl.Val{Kind: 11}, [][]impl.Step{{}}},
		{listOf(a, b), [][]impl.Step{{}, {at(0)}, {at(1)}}}, {tagOf(7, a), [][]impl.Step{{}, {at(0)}}},
		// A name comes before its value.
		{mapOf(a, b), [][]impl.Step{{}, {named(0)}, {at(0)}}}, {mapOf(a, b, b, a), [][]impl.Step{{}, {named(0)}, {at(0)}, {named(1)}, {at(1)}}},
		// A last name without a value has a path.
		{mapOf(a), [][]impl.Step{{}, {named(0)}}}, {mapOf(a, b, null), [][]impl.Step{{}, {named(0)}, {at(0)}, {named(1)}}}, {mapOf(mapOf(a)), [][]impl.Step{{}, {named(0)}, {named(0), named(0)}}},
		// What is in a value comes before the next one.
		{listOf(listOf(a, b), null), [][]impl.Step{{}, {at(0)}, {at(0), at(0)}, {at(0), at(1)}, {at(1)}}},
		{mapOf(mapOf(a, b), listOf(a), tagOf(1, a), null), [][]impl.Step{{}, {named(0)}, {named(0), named(0)}, {named(0), at(0)}, {at(0)}, {at(0), at(0)}, {named(1)}, {named(1), at(0)}, {at(1)}}},
		{listOf(listOf(listOf(a)), listOf(), listOf(null)), [][]impl.Step{{}, {at(0)}, {at(0), at(0)}, {at(0), at(0), at(0)}, {at(1)}, {at(2)}, {at(2), at(0)}}},
		{tagOf(1, mapOf(a, tagOf(2, null))), [][]impl.Step{{}, {at(0)}, {at(0), named(0)}, {at(0), at(0)}, {at(0), at(0), at(0)}}},
		// Elements count in invalid values too, whatever their kind.
		{impl.Val{L: vals(a, b)}, [][]impl.Step{{}, {at(0)}, {at(1)}}}, {impl.Val{Kind: 7, S: "a", L: vals(mapOf(a, b))}, [][]impl.Step{{}, {at(0)}, {at(0), named(0)}, {at(0), at(0)}}}, {impl.Val{Kind: 11, L: vals(a, b)}, [][]impl.Step{{}, {at(0)}, {at(1)}}},
	} {
		got, want := []string{}, []string{}
		for _, p := range impl.AllPaths(c.v) {
			got = append(got, stepsText(p.L))
		}
		for _, p := range c.want {
			want = append(want, stepsText(p))
		}
		if !slices.Equal(got, want) {
			t.Errorf("AllPaths(%s) = %q, want %q", fieldsText(c.v), got, want)
		}
	}
	for _, v := range append(pathTrees(), testMaps()[:300]...) {
		got := impl.AllPaths(v)
		want := locatedIn(v)
		same := slices.EqualFunc(got, want, func(p impl.Path, x located) bool { return slices.Equal(p.L, x.path) })
		if !same {
			t.Errorf("AllPaths(%s) = %v", fieldsText(v), got)
		}
	}
}

func TestPathText(t *testing.T) {
	a, b, null := textOf("a"), textOf("b"), nullVal()
	m := mapOf(a, listOf(intOf(7), mapOf(b, a)), intOf(3), tagOf(1, mapOf(a, intOf(8))), mapOf(a, b), null)
	for _, c := range []struct {
		v    impl.Val
		p    []impl.Step
		want string
	}{
		{m, nil, "$"}, {null, nil, "$"}, {impl.Val{}, path(), "$"},
		// A name and its value.
		{m, path(named(0)), "$.a~"}, {m, path(at(0)), "$.a"}, {m, path(named(1)), "$.#1~"}, {m, path(at(1)), "$.#1"}, {m, path(named(2)), "$.#2~"}, {m, path(at(2)), "$.#2"},
		{m, path(at(0), at(0)), "$.a[0]"}, {m, path(at(0), at(1)), "$.a[1]"}, {m, path(at(0), at(1), named(0)), "$.a[1].b~"}, {m, path(at(0), at(1), at(0)), "$.a[1].b"}, {m, path(at(1), at(0)), "$.#1!"}, {m, path(at(1), at(0), at(0)), "$.#1!.a"}, {m, path(at(1), at(0), named(0)), "$.#1!.a~"}, {m, path(named(2), named(0)), "$.#2~.a~"}, {m, path(named(2), at(0)), "$.#2~.a"},
		// The text ends before the first step that leads nowhere.
		{m, path(at(3)), "$"}, {m, path(named(3)), "$"}, {m, path(at(-1)), "$"}, {m, path(named(-1)), "$"}, {m, path(at(math.MaxInt)), "$"}, {m, path(at(math.MinInt)), "$"}, {m, path(at(1 << 62)), "$"}, {m, path(named(math.MinInt)), "$"},
		{m, path(at(0), named(0)), "$.a"}, {m, path(at(0), at(2)), "$.a"}, {m, path(at(0), at(2), at(0)), "$.a"}, {m, path(at(0), at(0), at(0)), "$.a[0]"}, {m, path(named(0), at(0)), "$.a~"}, {m, path(named(0), named(0)), "$.a~"}, {m, path(at(1), at(1)), "$.#1"}, {m, path(at(1), named(0)), "$.#1"}, {m, path(at(9), at(0), at(0)), "$"}, {m, path(at(0), at(1), at(1), at(0)), "$.a[1]"}, {null, path(at(0)), "$"}, {impl.Val{}, path(named(0)), "$"}, {listOf(), path(at(0)), "$"},
		// A last name without a value has a text, but there is no step to its value.
		{mapOf(a), path(named(0)), "$.a~"}, {mapOf(a), path(at(0)), "$"}, {mapOf(a, null, b), path(named(1)), "$.b~"}, {mapOf(a, null, b), path(at(1)), "$"}, {mapOf(a, null, null), path(named(1)), "$.#1~"}, {mapOf(mapOf(a)), path(named(0), named(0)), "$.#0~.a~"}, {mapOf(mapOf(a)), path(named(0), at(0)), "$.#0~"},
		// Names as they are, also equal ones, and such as look like other steps.
		{mapOf(a, null, a, b), path(at(1)), "$.a"}, {mapOf(textOf(""), null), path(at(0)), "$."}, {mapOf(textOf(""), null), path(named(0)), "$.~"}, {mapOf(textOf("a.b[0]!~"), listOf(null)), path(at(0), at(0)), "$.a.b[0]!~[0]"}, {mapOf(textOf("#0"), null), path(at(0)), "$.#0"}, {mapOf(textOf("é\"\n\x00"), null), path(at(0)), "$.é\"\n\x00"}, {mapOf(textOf("\xff"), null), path(at(0)), "$.\xff"}, {mapOf(textOf("\xff"), null), path(named(0)), "$.\xff~"},
		// Names of other kinds.
		{mapOf(bytesOf("a"), null), path(at(0)), "$.#0"}, {mapOf(listOf(a), null), path(named(0), at(0)), "$.#0~[0]"}, {mapOf(tagOf(1, a), null), path(at(0)), "$.#0"}, {mapOf(tagOf(1, a), null), path(named(0), at(0)), "$.#0~!"}, {mapOf(impl.Val{S: "a"}, null), path(at(0)), "$.#0"}, {mapOf(impl.Val{Kind: 7, S: "a", N: 5, L: vals(null)}, null), path(named(0), at(0)), "$.a~[0]"},
		{listOf(a, listOf(b, null)), path(at(1), at(1)), "$[1][1]"}, {tagOf(5, tagOf(6, a)), path(at(0), at(0)), "$!!"}, {tagOf(5, listOf(a)), path(at(0), at(0)), "$![0]"},
		// Invalid values with elements.
		{impl.Val{L: vals(a, b)}, path(at(1)), "$[1]"}, {impl.Val{L: vals(a, b)}, path(named(1)), "$"}, {impl.Val{Kind: 7, S: "a", L: vals(a)}, path(at(0)), "$[0]"}, {impl.Val{Kind: 11, L: vals(a, listOf(b))}, path(at(1), at(0)), "$![0]"}, {impl.Val{Kind: 11}, path(at(0)), "$"}, {impl.Val{Kind: 12, L: vals(a)}, path(at(0)), "$[0]"},
	} {
		if got := impl.PathText(c.v, c.p); got != c.want {
			t.Errorf("PathText(%s, %s) = %q, want %q", fieldsText(c.v), stepsText(c.p), got, c.want)
		}
	}
	for _, v := range append(pathTrees(), testMaps()[:300]...) {
		for _, x := range locatedIn(v) {
			if got := impl.PathText(v, x.path); got != x.text {
				t.Errorf("PathText(%s, %s) = %q, want %q", fieldsText(v), stepsText(x.path), got, x.text)
			}
			for _, s := range otherSteps(x.v) {
				if _, ok := stepped(x.v, s); ok {
					continue
				}
				p := append(slices.Clone(x.path), s, at(0), named(0))
				if got := impl.PathText(v, p); got != x.text {
					t.Errorf("PathText(%s, %s) = %q, want %q", fieldsText(v), stepsText(p), got, x.text)
				}
			}
		}
	}
}

// TestPathTextOfLongLists has numbers of several digits.
func TestPathTextOfLongLists(t *testing.T) {
	list, m := listOf(), mapOf()
	for n := range 1200 {
		list.L = append(list.L, nullVal())
		m.L = append(m.L, intOf(n), nullVal())
	}
	for n := range 1200 {
		number := strconv.Itoa(n)
		for got, want := range map[string]string{
			impl.PathText(list, path(at(n))):             "$[" + number + "]",
			impl.PathText(m, path(at(n))):                "$.#" + number,
			impl.PathText(m, path(named(n))):             "$.#" + number + "~",
			impl.PathText(list, path(at(n), at(0))):      "$[" + number + "]",
			impl.PathText(listOf(m), path(at(0), at(n))): "$[0].#" + number,
		} {
			if got != want {
				t.Errorf("PathText = %q, want %q", got, want)
			}
		}
	}
}

func TestLessPath(t *testing.T) {
	// In this order; a path comes before those that begin with it.
	l := [][]impl.Step{
		{},
		{named(math.MinInt)}, {named(math.MinInt), at(5)}, {at(math.MinInt)}, {at(math.MinInt), named(0)}, {at(math.MinInt + 1)}, {named(-2)}, {at(-2)}, {named(-1)}, {at(-1)}, {at(-1), at(math.MinInt)},
		{named(0)}, {named(0), named(0)}, {named(0), named(0), at(9)}, {named(0), at(0)}, {named(0), at(1)}, {named(0), named(2)}, {named(0), at(math.MaxInt)},
		{at(0)}, {at(0), named(math.MinInt)}, {at(0), at(-1)}, {at(0), named(0)}, {at(0), at(0)}, {at(0), at(0), named(0)}, {at(0), at(0), at(0)}, {at(0), at(0), at(0), at(0)}, {at(0), at(0), at(1)}, {at(0), at(1)}, {at(0), at(2), at(0)}, {at(0), at(10)},
		// At counts more than Name.
		{named(1)}, {named(1), at(7)}, {at(1)}, {at(1), at(0)}, {named(2)}, {named(2), named(3)}, {at(2)}, {at(2), at(1)}, {at(9)}, {named(10)}, {at(10)}, {at(1<<32 - 1)}, {named(1 << 32)}, {at(1 << 32)},
		{at(math.MaxInt - 1)}, {named(math.MaxInt)}, {named(math.MaxInt), at(math.MaxInt)}, {at(math.MaxInt)}, {at(math.MaxInt), at(math.MinInt)}, {at(math.MaxInt), at(math.MaxInt)},
	}
	for i, a := range l {
		for j, b := range l {
			if got := impl.LessPath(a, b); got != (i < j) {
				t.Errorf("LessPath(%s, %s) = %t", stepsText(a), stepsText(b), got)
			}
			// The same beginning and different ends do not change the order.
			common := path(at(3), named(4), at(-5))
			if got := impl.LessPath(append(slices.Clone(common), a...), append(slices.Clone(common), b...)); got != (i < j) {
				t.Errorf("LessPath of longer paths with %s and %s = %t", stepsText(a), stepsText(b), got)
			}
		}
	}
	if impl.LessPath(nil, nil) || impl.LessPath(nil, path()) || impl.LessPath(path(), nil) {
		t.Error("an empty path is less than another one")
	}
}

// lessPath restates LessPath as the lexicographic order of numbers: 2*At for a name, 2*At + 1 for a value.
func lessPath(a, b []impl.Step) bool {
	numbers := func(p []impl.Step) []int {
		l := []int{}
		for _, s := range p {
			n := 2*s.At + 1
			if s.Name {
				n--
			}
			l = append(l, n)
		}
		return l
	}
	return slices.Compare(numbers(a), numbers(b)) < 0
}

// TestLessPathOfShortPaths compares all paths of up to two steps with each other.
func TestLessPathOfShortPaths(t *testing.T) {
	l := [][]impl.Step{}
	eachPath(2, func(p []impl.Step) { l = append(l, p) })
	for i, a := range l {
		for j, b := range l {
			less, greater := impl.LessPath(a, b), impl.LessPath(b, a)
			if less != lessPath(a, b) || i == j && less || i != j && less == greater {
				t.Errorf("LessPath(%s, %s) = %t, and %t the other way round", stepsText(a), stepsText(b), less, greater)
			}
		}
	}
}

// TestLessPathReadsNoSpareSteps compares paths with different steps behind their ends.
func TestLessPathReadsNoSpareSteps(t *testing.T) {
	a, b := path(at(1), at(5), at(6))[:1], path(at(1), at(7))[:1]
	if impl.LessPath(a, b) || impl.LessPath(b, a) || !impl.LessPath(a, b[:2]) || impl.LessPath(a[:2], b) {
		t.Error("steps behind the end are compared")
	}
}

func checkPutAt(t *testing.T, v impl.Val, p []impl.Step, x, want impl.Val, wantOk bool) {
	t.Helper()
	got, ok := impl.PutAt(v, p, x)
	if fieldsText(got) != fieldsText(want) || ok != wantOk {
		t.Errorf("PutAt(%s, %s, %s) = %s, %t, want %s, %t", fieldsText(v), stepsText(p), fieldsText(x), fieldsText(got), ok, fieldsText(want), wantOk)
	}
}

func TestPutAt(t *testing.T) {
	a, b, null, x := textOf("a"), textOf("b"), nullVal(), intOf(9)
	m := mapOf(a, listOf(a, b), b, null)
	cut := mapOf(a, null, b)
	for _, c := range []struct {
		v    impl.Val
		p    []impl.Step
		x    impl.Val
		want impl.Val
		ok   bool
	}{
		// The empty path replaces v itself.
		{m, nil, x, x, true}, {null, path(), m, m, true}, {impl.Val{}, nil, x, x, true}, {m, nil, impl.Val{}, impl.Val{}, true},
		{listOf(a, b), path(at(0)), x, listOf(x, b), true}, {listOf(a, b), path(at(1)), x, listOf(a, x), true}, {tagOf(5, a), path(at(0)), x, tagOf(5, x), true},
		// A name or its value.
		{m, path(named(0)), x, mapOf(x, listOf(a, b), b, null), true}, {m, path(at(0)), x, mapOf(a, x, b, null), true}, {m, path(named(1)), x, mapOf(a, listOf(a, b), x, null), true}, {m, path(at(1)), x, mapOf(a, listOf(a, b), b, x), true},
		{m, path(at(0), at(1)), x, mapOf(a, listOf(a, x), b, null), true}, {mapOf(listOf(a, b), null), path(named(0), at(1)), x, mapOf(listOf(a, x), null), true}, {tagOf(1, m), path(at(0), at(0), at(0)), x, tagOf(1, mapOf(a, listOf(x, b), b, null)), true},
		// Equal names and values elsewhere remain.
		{listOf(a, a, a), path(at(1)), x, listOf(a, x, a), true}, {mapOf(a, a, a, a), path(named(1)), x, mapOf(a, a, x, a), true}, {mapOf(a, a, a, a), path(at(0)), b, mapOf(a, b, a, a), true},
		// A tree in place of a leaf, a leaf in place of a tree, the same value, the tree itself, an invalid value.
		{m, path(at(1)), m, mapOf(a, listOf(a, b), b, m), true}, {m, path(at(0)), null, mapOf(a, null, b, null), true}, {m, path(named(0)), a, m, true}, {listOf(m), path(at(0)), listOf(m), listOf(listOf(m)), true}, {m, path(named(0)), impl.Val{}, mapOf(impl.Val{}, listOf(a, b), b, null), true}, {m, path(at(1)), mapOf(a), mapOf(a, listOf(a, b), b, mapOf(a)), true},
		// A last name without a value.
		{cut, path(named(1)), x, mapOf(a, null, x), true}, {cut, path(at(1)), x, cut, false}, {cut, path(at(0)), x, mapOf(a, x, b), true}, {mapOf(a), path(at(0)), x, mapOf(a), false}, {mapOf(a), path(named(1)), x, mapOf(a), false}, {mapOf(a), path(named(0)), x, mapOf(x), true},
		// A step leads nowhere: nothing is put, nor appended.
		{m, path(at(2)), x, m, false}, {m, path(named(2)), x, m, false}, {m, path(at(-1)), x, m, false}, {m, path(named(-1)), x, m, false}, {m, path(at(0), at(2)), x, m, false}, {m, path(at(0), named(0)), x, m, false}, {m, path(at(0), at(0), at(0)), x, m, false}, {m, path(named(0), at(0)), x, m, false}, {m, path(at(7), at(0)), x, m, false}, {m, path(at(1 << 62)), x, m, false}, {m, path(named(math.MinInt)), x, m, false}, {m, path(at(math.MinInt)), x, m, false}, {m, path(at(math.MaxInt)), x, m, false},
		{listOf(a), path(at(1)), x, listOf(a), false}, {listOf(), path(at(0)), x, listOf(), false}, {listOf(a), path(named(0)), x, listOf(a), false}, {tagOf(1, a), path(named(0)), x, tagOf(1, a), false}, {tagOf(1, a), path(at(1)), x, tagOf(1, a), false}, {null, path(at(0)), x, null, false}, {impl.Val{}, path(at(0)), x, impl.Val{}, false}, {mapOf(), path(named(0)), x, mapOf(), false}, {mapOf(), path(at(0)), x, mapOf(), false},
		// Invalid values keep their other fields.
		{impl.Val{Kind: 10, N: 1, X: 2, S: "s", L: vals(a, b)}, path(at(0)), x, impl.Val{Kind: 10, N: 1, X: 2, S: "s", L: vals(a, x)}, true}, {impl.Val{N: 3, L: vals(a, b)}, path(at(1)), x, impl.Val{N: 3, L: vals(a, x)}, true}, {impl.Val{Kind: 11, L: vals(a, b)}, path(at(1)), x, impl.Val{Kind: 11, L: vals(a, x)}, true},
	} {
		checkPutAt(t, c.v, c.p, c.x, c.want, c.ok)
	}
}

// TestPutAtEverywhere replaces every value of many trees, one at a time.
func TestPutAtEverywhere(t *testing.T) {
	replacements := vals(textOf("new"), mapOf(textOf("a"), listOf(intOf(5), nullVal())), impl.Val{}, mapOf(nullVal()))
	for _, v := range pathTrees() {
		for i, x := range locatedIn(v) {
			if len(x.path) > 8 {
				continue
			}
			for _, y := range replacements {
				want := deepCopy(v, nil)
				*placesIn(&want)[i] = y
				checkPutAt(t, v, x.path, y, want, true)
			}
			got, _ := impl.PutAt(v, x.path, replacements[1])
			checkAtPath(t, got, x.path, replacements[1], true)
			checkPutAt(t, v, x.path, x.v, v, true)
			n := len(x.v.L)
			for _, s := range path(at(n/2), at(n), named(n/2), named(n/2+1), at(-1), named(-1), at(1<<62), named(math.MinInt)) {
				if _, ok := stepped(x.v, s); !ok {
					checkPutAt(t, v, append(slices.Clone(x.path), s), replacements[0], v, false)
					checkPutAt(t, v, append(slices.Clone(x.path), s, at(0)), replacements[0], v, false)
				}
			}
		}
	}
}

// pathResults are all values that the functions of chapter 8 return for v and x.
func pathResults(v, x impl.Val) []impl.Val {
	l := []impl.Val{}
	for i := range v.L {
		for _, s := range path(at(i), named(i)) {
			if found, ok := impl.StepVal(v, s); ok {
				l = append(l, found)
			}
		}
	}
	for _, p := range append(locatedIn(v), located{path: path(at(-1))}) {
		found, ok := impl.AtPath(v, p.path)
		if ok {
			l = append(l, found)
		}
		put, _ := impl.PutAt(v, p.path, x)
		l = append(l, put)
	}
	return l
}

// TestPathResultsAreNewMemory changes the results, and then the arguments, at every depth.
func TestPathResultsAreNewMemory(t *testing.T) {
	a, null := textOf("a"), nullVal()
	inner := listOf(listOf(a, null), mapOf(a, listOf(null)))
	for _, v := range vals(null, listOf(), listOf(a, null), mapOf(inner), mapOf(a, inner, inner, a), listOf(inner, tagOf(1, inner)), tagOf(1, inner), impl.Val{Kind: 7, L: vals(inner)}, mapOf(inner, inner, inner)) {
		tree, x := deepCopy(v, nil), deepCopy(inner, nil)
		before := fieldsText(tree) + fieldsText(x)
		for i := range pathResults(tree, x) {
			got := pathResults(tree, x)[i]
			for _, place := range placesIn(&got) {
				place.N++
				place.L = append(place.L, impl.Val{})
			}
			if after := fieldsText(tree) + fieldsText(x); after != before {
				t.Errorf("a change of result %d changes %s to %s", i, before, after)
			}
		}
		got := listOf(pathResults(tree, x)...)
		want := fieldsText(got)
		for _, place := range append(placesIn(&tree), placesIn(&x)...) {
			place.N++
		}
		if fieldsText(got) != want {
			t.Errorf("a change of %s changes a result", before)
		}
	}
}

// TestPutAtSeparates passes trees in which several values share their elements, or have room that others use.
func TestPutAtSeparates(t *testing.T) {
	a, b, x := textOf("a"), textOf("b"), intOf(9)
	shared := vals(a, b)
	v := listOf(listOf(shared...), mapOf(shared...), listOf(shared...))
	checkPutAt(t, v, path(at(0), at(1)), x, listOf(listOf(a, x), mapOf(a, b), listOf(a, b)), true)
	checkPutAt(t, v, path(at(1), named(0)), x, listOf(listOf(a, b), mapOf(x, b), listOf(a, b)), true)
	checkPutAt(t, v, path(at(2)), v, listOf(listOf(a, b), mapOf(a, b), v), true)
	checkPutAt(t, v, path(at(2), at(0)), listOf(shared...), listOf(listOf(a, b), mapOf(a, b), listOf(listOf(a, b), b)), true)

	got, _ := impl.PutAt(v, path(at(0), at(0)), v)
	for i, place := range placesIn(&got) {
		place.X = i
	}
	for _, place := range placesIn(&got) {
		// What is behind the elements must not belong to another value.
		room := place.L[len(place.L):cap(place.L)]
		for k := range room {
			room[k].X = -1
		}
	}
	for i, place := range placesIn(&got) {
		if place.X != i {
			t.Errorf("value %d shares its memory with value %d", i, place.X)
		}
	}
	checkVal(t, "the tree", v, listOf(listOf(a, b), mapOf(a, b), listOf(a, b)))

	room := vals(intOf(1), intOf(2), intOf(3))
	cut := listOf(room[:1]...)
	for _, put := range []impl.Val{x, listOf(room[:2]...)} {
		got, ok := impl.PutAt(cut, path(at(0)), put)
		got.L = append(got.L, intOf(7))
		got.L[0].L = append(got.L[0].L, intOf(8))
		if !ok || len(got.L) != 2 {
			t.Errorf("PutAt = %s, %t", fieldsText(got), ok)
		}
		got, ok = impl.PutAt(cut, path(at(1)), put)
		got.L = append(got.L, intOf(7))
		if ok || len(got.L) != 2 {
			t.Errorf("PutAt behind the elements = %s, %t", fieldsText(got), ok)
		}
	}
	if found, ok := impl.AtPath(cut, path(at(1))); ok || len(impl.AllPaths(cut)) != 2 || impl.PathText(cut, path(at(1))) != "$" {
		t.Errorf("the room behind the elements is read: %s", fieldsText(found))
	}
	found, _ := impl.AtPath(listOf(cut), path(at(0)))
	found.L = append(found.L, intOf(7))
	checkVal(t, "the room", listOf(room...), listOf(intOf(1), intOf(2), intOf(3)))
}

// TestAllPathsAreNewMemory changes and extends each path, and looks at the others.
func TestAllPathsAreNewMemory(t *testing.T) {
	for _, v := range pathTrees() {
		want := locatedIn(v)
		for i := range min(len(want), 12) {
			got := impl.AllPaths(v)
			got[i].L = append(got[i].L, at(77), named(78))
			for k := range got[i].L {
				got[i].L[k] = named(-9)
			}
			for j, p := range got {
				if j != i && !slices.Equal(p.L, want[j].path) {
					t.Fatalf("a change of path %d of %s makes path %d %s", i, fieldsText(v), j, stepsText(p.L))
				}
			}
		}
		if again := impl.AllPaths(v); len(again) != len(want) {
			t.Errorf("AllPaths(%s) has %d paths after a change of its result", fieldsText(v), len(again))
		}
	}
}

func TestArgumentsOfPathsStay(t *testing.T) {
	x := mapOf(textOf("a"), listOf(nullVal()))
	for _, v := range pathTrees() {
		before := fieldsText(v)
		impl.AllPaths(v)
		for _, place := range locatedIn(v) {
			room := append(slices.Clone(place.path), at(-1), named(5))
			p := room[:len(place.path)]
			impl.AtPath(v, p)
			impl.PathText(v, p)
			impl.LessPath(p, room)
			impl.PutAt(v, p, x)
			impl.PutAt(v, room, x)
			if !slices.Equal(room, append(slices.Clone(place.path), at(-1), named(5))) {
				t.Errorf("the path %s has become %s", stepsText(place.path), stepsText(room))
			}
		}
		for i := range v.L {
			impl.StepVal(v, at(i))
			impl.StepVal(v, named(i))
		}
		if after := fieldsText(v); after != before || fieldsText(x) != fieldsText(mapOf(textOf("a"), listOf(nullVal()))) {
			t.Errorf("%s has become %s", before, after)
		}
	}
}

func TestDeepPaths(t *testing.T) {
	const deep = 300000
	v := chain(deep, textOf("a"))
	p := slices.Repeat(path(at(1)), deep-1)
	x, ok := impl.AtPath(v, p)
	if !ok || x.S != "a" {
		t.Errorf("AtPath of a deep tree = %s, %t", fieldsText(x), ok)
	}
	if _, ok := impl.AtPath(v, append(slices.Clone(p), at(0))); ok {
		t.Error("a path leads out of a deep tree")
	}
	if got := impl.PathText(v, append(slices.Clone(p), at(0))); got != "$"+strings.Repeat("[1]", deep-1) {
		t.Errorf("PathText of a deep tree has %d bytes", len(got))
	}
	if got, ok := impl.PutAt(v, p, textOf("b")); !ok || !impl.SameVal(got, chain(deep, textOf("b"))) {
		t.Error("PutAt is wrong for deep trees")
	}
	if got, ok := impl.PutAt(v, append(slices.Clone(p), at(0)), textOf("b")); ok || !impl.SameVal(got, v) {
		t.Error("PutAt behind the end of a deep tree changes it")
	}
	if x, ok := impl.StepVal(v, at(1)); !ok || !impl.SameVal(x, chain(deep-1, textOf("a"))) {
		t.Error("StepVal is wrong for deep trees")
	}
	other := slices.Clone(p)
	other[deep-2].Name = true
	if !impl.LessPath(other, p) || impl.LessPath(p, other) || impl.LessPath(p, p) || !impl.LessPath(p[:deep-2], p) {
		t.Error("LessPath is wrong for long paths")
	}
}

func TestAllPathsOfDeepTrees(t *testing.T) {
	const deep = 1000
	l := impl.AllPaths(chain(deep, textOf("a")))
	if len(l) != 3*deep-2 {
		t.Fatalf("%d paths", len(l))
	}
	steps := slices.Repeat(path(at(1)), deep)
	for n := 1; n < deep; n++ {
		before := append(slices.Clone(steps[:n-1]), at(0))
		behind := append(slices.Clone(steps[:n-1]), at(2))
		if !slices.Equal(l[2*n-1].L, before) || !slices.Equal(l[2*n].L, steps[:n]) || !slices.Equal(l[len(l)-n].L, behind) {
			t.Fatalf("the paths of depth %d are wrong", n)
		}
	}
}

func TestPathsOfWideTrees(t *testing.T) {
	const wide = 100000
	m := mapOf()
	for n := range wide {
		m.L = append(m.L, intOf(n), listOf(intOf(-n)))
	}
	l := impl.AllPaths(m)
	if len(l) != 1+3*wide {
		t.Fatalf("%d paths", len(l))
	}
	for n := range wide {
		if !slices.Equal(l[3*n+1].L, path(named(n))) || !slices.Equal(l[3*n+2].L, path(at(n))) || !slices.Equal(l[3*n+3].L, path(at(n), at(0))) {
			t.Fatalf("the paths of pair %d are wrong", n)
		}
	}
	if x, ok := impl.AtPath(m, path(at(wide-1), at(0))); !ok || x.N != 1-wide {
		t.Errorf("AtPath of a wide tree = %s, %t", fieldsText(x), ok)
	}
}
