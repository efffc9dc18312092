package tests

import (
	"encoding/json"
	"math"
	"math/rand"
	"slices"
	"strings"
	"testing"

	"loop.example/g00502/impl"
)

// fitsText restates FitsText.
func fitsText(v impl.Val) bool {
	if !validVal(v) || v.Kind == 4 || v.Kind == 5 || v.Kind == 8 || v.Kind == 11 {
		return false
	}
	seen := map[string]bool{}
	for i, x := range v.L {
		if v.Kind == 10 && i%2 == 0 {
			if x.Kind != 7 || seen[x.S] {
				return false
			}
			seen[x.S] = true
		}
		if !fitsText(x) {
			return false
		}
	}
	return true
}

// textByDefinition restates WriteText for a tree that fits.
func textByDefinition(v impl.Val) string {
	switch v.Kind {
	case 1:
		return "null"
	case 2:
		return map[int]string{0: "false", 1: "true"}[v.N]
	case 3:
		return decimal(v.N, 0).FloatString(0)
	case 6:
		return decimal(v.N, v.X).FloatString(-v.X)
	case 7:
		return quoteByDefinition(v.S)
	}
	parts := []string{}
	for i, x := range v.L {
		part := textByDefinition(x)
		if v.Kind == 10 && i%2 == 1 {
			parts[i/2] += ":" + part
		} else {
			parts = append(parts, part)
		}
	}
	if v.Kind == 10 {
		return "{" + strings.Join(parts, ",") + "}"
	}
	return "[" + strings.Join(parts, ",") + "]"
}

// parseTokens restates ParseTokens.
func parseTokens(l []impl.Token, deep int) (impl.Val, int) {
	v, rest, code := parseValue(l, 1, deep)
	if code != 0 {
		return impl.Val{}, code
	}
	if len(rest) > 0 {
		return impl.Val{}, 1
	}
	return v, 0
}

// parseValue calls itself for the values in a value. It returns the value, the tokens behind it and the code, or the zero Val, the tokens from the first error on and the code.
func parseValue(l []impl.Token, depth, deep int) (impl.Val, []impl.Token, int) {
	if depth > deep {
		return impl.Val{}, l, 2
	}
	if len(l) == 0 {
		return impl.Val{}, l, 1
	}
	rest := l[1:]
	switch t := l[0]; {
	case t.Kind == 4 && t.S == "null":
		return nullVal(), rest, 0
	case t.Kind == 4 && t.S == "true":
		return impl.Val{Kind: 2, N: 1}, rest, 0
	case t.Kind == 4 && t.S == "false":
		return impl.Val{Kind: 2}, rest, 0
	case t.Kind == 2:
		return textOf(t.S), rest, 0
	case t.Kind == 3:
		d, ok := impl.DecNew(t.N, t.X)
		if !ok {
			return impl.Val{}, l, 2
		}
		if d.X == 0 {
			return intOf(d.N), rest, 0
		}
		return decOf(d.N, d.X), rest, 0
	case startsWith(l, "["):
		return parseElements(rest, 9, "]", depth, deep)
	case startsWith(l, "{"):
		return parseElements(rest, 10, "}", depth, deep)
	}
	return impl.Val{}, l, 1
}

// startsWith reports whether the first token is the sign.
func startsWith(l []impl.Token, sign string) bool {
	return len(l) > 0 && l[0].Kind == 1 && l[0].S == sign
}

func parseElements(l []impl.Token, kind int, end string, depth, deep int) (impl.Val, []impl.Token, int) {
	v := impl.Val{Kind: kind}
	if startsWith(l, end) {
		return v, l[1:], 0
	}
	for {
		if kind == 10 {
			if len(l) == 0 || l[0].Kind != 2 {
				return impl.Val{}, l, 1
			}
			if !startsWith(l[1:], ":") {
				return impl.Val{}, l[1:], 1
			}
			v.L = append(v.L, textOf(l[0].S))
			l = l[2:]
		}
		x, rest, code := parseValue(l, depth+1, deep)
		if code != 0 {
			return impl.Val{}, rest, code
		}
		v.L = append(v.L, x)
		if startsWith(rest, end) {
			return v, rest[1:], 0
		}
		if !startsWith(rest, ",") {
			return impl.Val{}, rest, 1
		}
		l = rest[1:]
	}
}

// checkParse compares one call of ParseTokens with the grammar, and returns its code.
func checkParse(t *testing.T, l []impl.Token, deep int) int {
	t.Helper()
	got, code := impl.ParseTokens(l, deep)
	want, wantCode := parseTokens(l, deep)
	if code != wantCode || fieldsText(got) != fieldsText(want) {
		t.Errorf("ParseTokens(%v, %d) = %s, %d, want %s, %d", l, deep, fieldsText(got), code, fieldsText(want), wantCode)
	}
	return wantCode
}

// checkReadText compares one call of ReadText with a tree and a code, which belong to its tokens as well.
func checkReadText(t *testing.T, s string, deep int, want impl.Val, wantCode int) {
	t.Helper()
	if got, code := impl.ReadText(s, deep); code != wantCode || fieldsText(got) != fieldsText(want) {
		t.Errorf("ReadText(%.80q, %d) = %.200s, %d, want %.200s, %d", s, deep, fieldsText(got), code, fieldsText(want), wantCode)
	}
	l, tokensCode := tokensIn(s)
	if tokensCode != 0 {
		if tokensCode != wantCode {
			t.Errorf("the tokens of %q have the code %d, and the test wants %d", s, tokensCode, wantCode)
		}
		return
	}
	if got, code := impl.ParseTokens(l, deep); code != wantCode || fieldsText(got) != fieldsText(want) {
		t.Errorf("ParseTokens(%v, %d) = %.200s, %d, want %.200s, %d", l, deep, fieldsText(got), code, fieldsText(want), wantCode)
	}
	if got, code := parseTokens(l, deep); code != wantCode || fieldsText(got) != fieldsText(want) {
		t.Errorf("the test reads %.80q as %.200s, %d, and not as %.200s, %d", s, fieldsText(got), code, fieldsText(want), wantCode)
	}
}

// checkFails checks that a text gives a code and no tree.
func checkFails(t *testing.T, s string, deep, code int) {
	t.Helper()
	checkReadText(t, s, deep, impl.Val{}, code)
}

// textTrees are different trees that the text format has.
func textTrees() []impl.Val {
	a, b, null := textOf("a"), textOf("b"), nullVal()
	l := validTrees()
	for _, v := range validTrees() {
		if fitsText(v) {
			l = append(l, around(v)...)
		}
	}
	for _, s := range quotableTexts()[:60] {
		l = append(l, textOf(s), mapOf(textOf(s), null), mapOf(textOf(s), textOf(s), textOf(s+"x"), listOf(textOf(s))))
	}
	for _, d := range validDecs() {
		v := decOf(d.N, d.X)
		if d.X == 0 {
			v = intOf(d.N)
		}
		l = append(l, v, listOf(v, v), mapOf(a, v))
	}
	l = append(l,
		mapOf(a, b, b, a), mapOf(b, a, a, b), mapOf(a, mapOf(a, mapOf(a, null, b, mapOf())), b, listOf()), mapOf(a, listOf(mapOf(a, null), mapOf(a, null)), b, mapOf(a, null)), listOf(listOf(), mapOf(), listOf(listOf(mapOf()))), mapOf(textOf(""), null, a, null, textOf("A"), null, textOf("a\x00"), null, textOf("é"), null, textOf("e\u0301"), null),
		textOf("[1,2]"), textOf("null"), textOf("{\"a\":1}"), listOf(textOf(","), textOf("]"), textOf("\"")), mapOf(textOf(":"), textOf("}")), listOf(decOf(25, -1), intOf(-25), intOf(0)),
	)
	return slices.DeleteFunc(unlike(l), func(v impl.Val) bool { return !fitsText(v) })
}

// otherTrees are trees that the text format does not have: invalid ones, and those with other kinds, other names, or equal names.
func otherTrees() []impl.Val {
	a, b, null, one := textOf("a"), textOf("b"), nullVal(), intOf(1)
	l := slices.Concat(validTrees(), invalidVals(), loadedNumbers())
	for i, v := range l {
		if !fitsText(v) && (i%7 == 0 || validVal(v) && len(v.L) == 0) {
			l = append(l, around(v)...)
		}
	}
	l = append(l,
		mapOf(a, null, a, null), mapOf(a, one, b, one, a, null), mapOf(b, one, a, one, a, null), mapOf(textOf(""), one, textOf(""), one), listOf(one, mapOf(a, one, a, one)), mapOf(a, mapOf(b, one, b, null)), mapOf(a, listOf(mapOf(b, one), mapOf(a, one, a, null))),
		mapOf(one, a), mapOf(null, a), mapOf(decOf(5, -1), a), mapOf(impl.Val{Kind: 2}, a), mapOf(listOf(), a), mapOf(mapOf(), a), mapOf(listOf(a), a), mapOf(a, one, one, a), mapOf(one, a, a, one), mapOf(bytesOf("a"), a), mapOf(a, one, bytesOf("a"), one), mapOf(tagOf(0, a), a), listOf(mapOf(a, mapOf(one, a))),
		mapOf(a), mapOf(a, one, b), mapOf(textOf("\xff"), one), mapOf(a, textOf("\xed\xa0\x80")), listOf(a, bytesOf("a")), listOf(impl.Val{}), listOf(a, impl.Val{Kind: 12}),
	)
	return slices.DeleteFunc(unlike(l), fitsText)
}

func TestTextConstants(t *testing.T) {
	if impl.WText != 1 || impl.WTight != 2 || impl.WPacked != 3 || impl.WPlain != 4 || impl.MaxDeep != 20 {
		t.Error("a constant of chapter 11 has another value")
	}
	var small int8 = impl.MaxDeep + impl.WPlain
	if small != 24 {
		t.Errorf("MaxDeep + WPlain = %d", small)
	}
}

func TestFitsText(t *testing.T) {
	good, bad := textTrees(), otherTrees()
	if len(good) < 800 || len(bad) < 1000 {
		t.Fatalf("only %d and %d trees", len(good), len(bad))
	}
	for _, v := range good {
		if !impl.FitsText(v) || !impl.FitsText(deepCopy(v, []impl.Val{})) {
			t.Errorf("FitsText(%s) = false", fieldsText(v))
		}
	}
	for _, v := range bad {
		if impl.FitsText(v) {
			t.Errorf("FitsText(%s) = true", fieldsText(v))
		}
	}
}

// TestFitsTextAtAnyPlace puts values of every kind at every place of trees, also at those of names.
func TestFitsTextAtAnyPlace(t *testing.T) {
	put := []impl.Val{nullVal(), {Kind: 2, N: 1}, intOf(7), fltOf(3, -1), {Kind: 5}, decOf(5, -1), textOf("a"), textOf("b"), textOf("c"), textOf("\xff"), bytesOf("a"), listOf(), listOf(textOf("a")), mapOf(), mapOf(textOf("a"), nullVal()), tagOf(1, textOf("a")), {}, {Kind: 12}, {Kind: 7, S: "c", N: 1}}
	for i, v := range textTrees() {
		if i%9 != 0 || len(placesIn(&v)) > 40 {
			continue
		}
		for k := range placesIn(&v) {
			for _, x := range put {
				changed := deepCopy(v, nil)
				*placesIn(&changed)[k] = x
				if got := impl.FitsText(changed); got != fitsText(changed) {
					t.Errorf("FitsText(%s) = %t", fieldsText(changed), got)
				}
				if got := impl.WriteText(changed); (got == "") == fitsText(changed) {
					t.Errorf("WriteText(%s) = %q", fieldsText(changed), got)
				}
			}
		}
	}
}

func TestWriteText(t *testing.T) {
	a, b, null := textOf("a"), textOf("b"), nullVal()
	for _, c := range []struct {
		v    impl.Val
		want string
	}{
		{null, "null"}, {impl.Val{Kind: 2, N: 1}, "true"}, {impl.Val{Kind: 2}, "false"}, {intOf(0), "0"}, {intOf(-17), "-17"}, {intOf(impl.MaxInt), "1000000000000000"}, {decOf(-5, -2), "-0.05"}, {decOf(25, -1), "2.5"}, {decOf(99999999999999999, -16), "9.9999999999999999"}, {textOf(""), `""`}, {textOf("a\"\n/é\x7f"), `"a\"\n/é` + "\x7f" + `"`}, {textOf("\x1f"), `"\u001f"`},
		{listOf(), "[]"}, {mapOf(), "{}"}, {listOf(null), "[null]"}, {listOf(intOf(1), intOf(2), intOf(3)), "[1,2,3]"}, {listOf(listOf()), "[[]]"}, {listOf(mapOf(), listOf(), mapOf()), "[{},[],{}]"}, {listOf(listOf(null), intOf(-1), listOf(null, null)), "[[null],-1,[null,null]]"},
		{mapOf(a, null), `{"a":null}`}, {mapOf(b, intOf(1), a, intOf(2)), `{"b":1,"a":2}`}, {mapOf(textOf(""), mapOf(textOf(""), mapOf())), `{"":{"":{}}}`}, {mapOf(a, listOf(intOf(1), decOf(25, -1), null), b, textOf("x")), `{"a":[1,2.5,null],"b":"x"}`}, {listOf(mapOf(a, mapOf(b, listOf())), mapOf(a, b)), `[{"a":{"b":[]}},{"a":"b"}]`},
		{mapOf(textOf("\"\\"), null), `{"\"\\":null}`}, {mapOf(a, listOf(), b, mapOf()), `{"a":[],"b":{}}`},
		// Trees that FitsText refuses.
		{impl.Val{}, ""}, {fltOf(1, 0), ""}, {impl.Val{Kind: 5}, ""}, {bytesOf(""), ""}, {tagOf(1, null), ""}, {decOf(1, 0), ""}, {decOf(50, -1), ""}, {intOf(impl.MaxInt + 1), ""}, {textOf("\xff"), ""}, {impl.Val{Kind: 1, N: 1}, ""}, {mapOf(a), ""}, {mapOf(a, null, a, null), ""}, {mapOf(null, null), ""}, {listOf(listOf(null, bytesOf("a"))), ""}, {mapOf(a, mapOf(b, null, b, null)), ""},
	} {
		if got := impl.WriteText(c.v); got != c.want {
			t.Errorf("WriteText(%s) = %q, want %q", fieldsText(c.v), got, c.want)
		}
	}
	for _, v := range textTrees() {
		if got, want := impl.WriteText(v), textByDefinition(v); got != want {
			t.Errorf("WriteText(%s) = %q, want %q", fieldsText(v), got, want)
		}
	}
	for _, v := range otherTrees() {
		if got := impl.WriteText(v); got != "" {
			t.Errorf("WriteText(%s) = %q, want nothing", fieldsText(v), got)
		}
	}
}

// plainly returns what the library makes of the JSON text of a tree that fits.
func plainly(v impl.Val) any {
	switch v.Kind {
	case 2:
		return v.N == 1
	case 3, 6:
		return json.Number(textByDefinition(v))
	case 7:
		return v.S
	case 9:
		l := []any{}
		for _, x := range v.L {
			l = append(l, plainly(x))
		}
		return l
	case 10:
		m := map[string]any{}
		for i := 0; i < len(v.L); i += 2 {
			m[v.L[i].S] = plainly(v.L[i+1])
		}
		return m
	}
	return nil
}

// TestLibraryReadsTexts lets the library read what WriteText writes.
func TestLibraryReadsTexts(t *testing.T) {
	for _, v := range textTrees() {
		d := json.NewDecoder(strings.NewReader(impl.WriteText(v)))
		d.UseNumber()
		var got any
		if err := d.Decode(&got); err != nil {
			t.Errorf("the library does not read %q: %v", impl.WriteText(v), err)
			continue
		}
		again, _ := json.Marshal(got)
		want, _ := json.Marshal(plainly(v))
		if string(again) != string(want) {
			t.Errorf("the library reads %s, want %s", again, want)
		}
	}
}

// TestReadTextReadsWhatIsWritten holds promise 11: a tree is read from its text, at every depth that suffices, and no other tree has that text.
func TestReadTextReadsWhatIsWritten(t *testing.T) {
	seen := map[string]string{}
	for _, v := range textTrees() {
		s, fields, deep := impl.WriteText(v), fieldsText(v), deepByDefinition(v)
		if other, ok := seen[s]; ok {
			t.Errorf("%s and %s are both %q", fields, other, s)
		}
		seen[s] = fields
		for _, limit := range []int{deep, deep + 1, deep + 100, math.MaxInt} {
			for _, text := range []string{s, " " + s + "\n"} {
				if got, code := impl.ReadText(text, limit); code != 0 || fieldsText(got) != fields {
					t.Errorf("ReadText(%q, %d) = %s, %d, want %s, 0", text, limit, fieldsText(got), code, fields)
				}
			}
		}
		for _, limit := range []int{deep - 1, deep - 2, 0, -1, -deep, math.MinInt} {
			if got, code := impl.ReadText(s, limit); limit < deep && (code != 2 || fieldsText(got) != fieldsText(impl.Val{})) {
				t.Errorf("ReadText(%q, %d) = %s, %d, want the zero Val, 2", s, limit, fieldsText(got), code)
			}
		}
		loose := impl.JoinTokens(impl.TokensOf(v))
		texts := []string{loose, "\t" + loose + " "}
		if !strings.Contains(s, " ") {
			// A space within a string would be replaced too.
			texts = append(texts, strings.ReplaceAll(loose, " ", "\r\n\t "))
		}
		for _, text := range texts {
			if got, code := impl.ReadText(text, deep); code != 0 || fieldsText(got) != fields {
				t.Errorf("ReadText(%q, %d) = %s, %d, want %s, 0", text, deep, fieldsText(got), code, fields)
			}
		}
		l, _ := tokensIn(s)
		if got, code := impl.ParseTokens(l, deep); code != 0 || fieldsText(got) != fields {
			t.Errorf("ParseTokens of %q = %s, %d, want %s, 0", s, fieldsText(got), code, fields)
		}
	}
}

// TestCutTexts takes tokens away from the end, doubles one, adds one, or leaves one out: the code is that of the grammar.
func TestCutTexts(t *testing.T) {
	for i, v := range textTrees() {
		l, _ := tokensIn(impl.WriteText(v))
		if i%5 != 0 || len(l) > 60 {
			continue
		}
		deep := deepByDefinition(v)
		for k := range l {
			if code := checkParse(t, l[:k], deep); code == 0 {
				t.Errorf("the first %d tokens of %v are a tree", k, l)
			}
			checkParse(t, slices.Delete(slices.Clone(l), k, k+1), deep)
			checkParse(t, slices.Insert(slices.Clone(l), k, l[k]), deep)
			for _, x := range parseAlphabet() {
				checkParse(t, slices.Insert(slices.Clone(l), k, x), deep)
				changed := slices.Clone(l)
				changed[k] = x
				checkParse(t, changed, deep)
				if code := checkParse(t, append(slices.Clone(l), x), deep); code != 1 {
					t.Errorf("%v and %v are the code %d", l, x, code)
				}
			}
		}
	}
}

func TestReadText(t *testing.T) {
	a, b, null := textOf("a"), textOf("b"), nullVal()
	one, two := intOf(1), intOf(2)
	for _, c := range []struct {
		s    string
		deep int
		want impl.Val
	}{
		{"null", 1, null}, {"true", 1, impl.Val{Kind: 2, N: 1}}, {"false", 1, impl.Val{Kind: 2}}, {`"a"`, 1, a}, {`""`, 1, textOf("")}, {`"\ud83d\ude00\/"`, 1, textOf("\U0001f600/")}, {" \n1\t\r", 1, one},
		{"0", 1, intOf(0)}, {"-0", 1, intOf(0)}, {"-0.00e5", 1, intOf(0)}, {"0e40", 1, intOf(0)}, {"1.0", 1, one}, {"10e-1", 1, one}, {"1e15", 1, intOf(impl.MaxInt)}, {"-1000000000000000.0", 1, intOf(-impl.MaxInt)}, {"2.50", 1, decOf(25, -1)}, {"-5E-2", 1, decOf(-5, -2)}, {"1e-16", 1, decOf(1, -16)}, {"9.9999999999999999", 1, decOf(99999999999999999, -16)}, {"120e1", 1, intOf(1200)},
		{"[]", 1, listOf()}, {"{}", 1, mapOf()}, {"[ ]", 1, listOf()}, {"{\n}", 1, mapOf()}, {"[null]", 2, listOf(null)}, {"[1,2,1]", 2, listOf(one, two, one)}, {"[[],{}]", 2, listOf(listOf(), mapOf())}, {"[[[]]]", 3, listOf(listOf(listOf()))}, {"[[],[[]],1]", 3, listOf(listOf(), listOf(listOf()), one)},
		{`{"a":1}`, 2, mapOf(a, one)}, {`{"b":1,"a":2}`, 2, mapOf(b, one, a, two)}, {`{"a":{"b":[]},"b":{}}`, 3, mapOf(a, mapOf(b, listOf()), b, mapOf())}, {`{"a":"b","b":"a"}`, 2, mapOf(a, b, b, a)}, {`[{"a":1},{"a":2}]`, 3, listOf(mapOf(a, one), mapOf(a, two))}, {`{"":[[1],2]}`, 4, mapOf(textOf(""), listOf(listOf(one), two))},
		{`{"null":null,"[":true}`, 2, mapOf(textOf("null"), null, textOf("["), impl.Val{Kind: 2, N: 1})}, {`["]",",","[",":"]`, 2, listOf(textOf("]"), textOf(","), textOf("["), textOf(":"))}, {"{\"a\": [1, 2.50, null], \"b\": \"x\"}", 3, mapOf(a, listOf(one, decOf(25, -1), null), b, textOf("x"))},
		// Equal names do not matter to the grammar, although FitsText refuses the tree.
		{`{"a":1,"a":2}`, 2, mapOf(a, one, a, two)}, {`{"a":1,"b":1,"a":1}`, 2, mapOf(a, one, b, one, a, one)}, {`{"a":1,"\u0061":2}`, 2, mapOf(a, one, a, two)}, {`[{"":{"a":1,"a":1},"":1}]`, 4, listOf(mapOf(textOf(""), mapOf(a, one, a, one), textOf(""), one))},
		// No space is required where two tokens could not be one.
		{`[null,true,false]`, 2, listOf(null, impl.Val{Kind: 2, N: 1}, impl.Val{Kind: 2})}, {"[-1,-1]", 2, listOf(intOf(-1), intOf(-1))},
	} {
		checkReadText(t, c.s, c.deep, c.want, 0)
		checkReadText(t, c.s, c.deep+1, c.want, 0)
		checkReadText(t, c.s, math.MaxInt, c.want, 0)
		checkFails(t, c.s, c.deep-1, 2)
		checkFails(t, c.s, 0, 2)
		checkFails(t, c.s, math.MinInt, 2)
	}
	for _, s := range []string{`{"a":1,"a":2}`, `[{"a":1,"a":1}]`} {
		v, code := impl.ReadText(s, impl.MaxDeep)
		if code != 0 || impl.FitsText(v) || impl.WriteText(v) != "" || len(impl.TokensOf(v)) != 0 {
			t.Errorf("the equal names of %q give %s, %d, and the text %q", s, fieldsText(v), code, impl.WriteText(v))
		}
	}
}

func TestTrailingCommas(t *testing.T) {
	for _, s := range []string{
		"[1,]", "[1,2,]", "[1,,]", "[1,,2]", "[,1]", "[,]", "[,,]", "[ 1 , ]", "[[],]", "[{},]", "[null,]", `["a",]`, "[[1,]]", "[[1,],2]", "[1,[2,]]", `[{"a":1},]`, "[,[]]", "[1,2,,3]", "[[1],,[2]]", "[[],[,]]",
		`{"a":1,}`, `{"a":1,"b":2,}`, `{"a":1,,}`, `{"a":1,,"b":2}`, `{,"a":1}`, "{,}", "{,,}", `{ "a" : 1 , }`, `{"a":[],}`, `{"a":{},}`, `{"a":{"b":1,}}`, `{"a":{"b":1,},"c":2}`, `{"a":[1,]}`, `[{"a":1,}]`, `{"a":1,"a":1,}`, `{"a",}`, `{"a":,}`, `{"a":,"b":1}`,
		"1,", "1,2", ",1", ",", ",,", "[],", "{},", "[],[]", `"a",`, "null,null", "[1,2],", `{"a":1},`, ",[]", ",null",
		"[1,", "[1,2,", "[,", "[[],", `{"a":1,`, `{"a":1,"b"`, `{"a":1,"b":`, `{"a":1,"b":2,`, "{,",
	} {
		for _, deep := range []int{3, 4, 20, math.MaxInt} {
			checkFails(t, s, deep, 1)
		}
	}
	// Where a value would begin too deep, the limit comes first, also before a comma.
	for _, c := range []struct {
		s          string
		deep, code int
	}{
		{"[,]", 1, 2}, {"[,]", 2, 1}, {"[1,]", 1, 2}, {"[1,]", 2, 1}, {"[[],]", 1, 2}, {"[[],]", 2, 1}, {"[[1],]", 2, 2}, {"[[1,],]", 2, 2}, {"[[,],]", 2, 2}, {"[[],[,]]", 2, 2}, {"[[,],1]", 3, 1}, {"[1,[,]]", 1, 2}, {"[1,[,]]", 2, 2}, {"[1,,[[]]]", 2, 1}, {"[,", 1, 2}, {"[,", 2, 1}, {",", 0, 2}, {",", 1, 1},
		{"{,}", 1, 1}, {"{,}", 0, 2}, {`{"a":,}`, 1, 2}, {`{"a":,}`, 2, 1}, {`{"a":1,}`, 1, 2}, {`{"a":1,}`, 2, 1}, {`{"a",}`, 1, 1}, {`{"a":{},}`, 2, 1}, {`{"a":{,}}`, 2, 1}, {`{"a":{,}}`, 1, 2}, {`{"a":{"b":1,}}`, 2, 2}, {`{"a":{"b":1,}}`, 3, 1}, {"[],", 1, 1}, {"{},", 1, 1}, {"1,", 1, 1},
	} {
		checkFails(t, c.s, c.deep, c.code)
	}
}

func TestReadTextRejects(t *testing.T) {
	for _, s := range []string{
		// The tokens end too early.
		"", " ", "\n\t\r ", "[", "[[", "[[]", "[1", "[1,[2]", "{", `{"a"`, `{"a":`, `{"a":1`, `{"a":{}`, `{"a":{`, "[{", `[{"a":[`,
		// Signs that do not belong there, or to each other.
		"]", "}", ":", "[}", "{]", "[1}", `{"a":1]`, "[[1}]", "[{]}", "][", "}{", "[]]", "{}}", "[[]", "[1:2]", `["a":1]`, `["a":1,"b":2]`, "[:]", "{:}", "{:1}", "[1 2]", "[1[2]]", "[[][]]", "[{}{}]", `["a""b"]`, "[null null]", "[[]1]", "[1{}]", "[truefalse]", "[01]", "[1-2]",
		// Pairs of another form.
		`{"a"}`, `{"a" 1}`, `{"a"1}`, `{"a"::1}`, `{"a":1:2}`, `{"a":1 "b":2}`, `{"a":1"b":2}`, `{"a","b"}`, `{"a":1,"b"}`, `{"a":}`, `{"a":1,"b":}`, `{"a""b":1}`, `{"a"{}}`, `{"a"[1]}`, `{"a":1;"b":2}`, `{"a"=1}`,
		// Names that are no strings.
		"{1:1}", "{null:1}", "{true:1}", "{1}", "{null}", "{[]:1}", "{{}:1}", "{[]}", "{{}}", "{-0.5:1}", "{a:1}", "{'a':1}", `{"a":1,2:3}`, `{"a":1,null:3}`, `{"a":1,[]:3}`, `{["a"]:1}`, `[{1:1}]`, `{"a":{1:1}}`, "{1e20:1}",
		// Tokens that follow the tree.
		"1 2", "1 1", "null null", "nullnull", "[][]", "[] []", "{}{}", "{}[]", `"a""a"`, `"a":1`, "1:", "1]", "1}", "1[", "[]1", "[]null", "null[]", "1e5 x", "01", "-0-0", `{"a":1}"b"`, "[1]]", "1 1e20", "[] 1e20", "1e16e", "[]:",
		// What is no token.
		"x", "nul", "[x]", "[1,x]", "'a'", `"a`, `["a]`, "[1.]", "[.5]", "[+1]", "[-]", "[NaN]", "// 1", "[1 // 2\n]", "\ufeff1", "[\u00a0]", "\xff", "[\x00]", "1\x00", "None", "undefined", "TRUE", `"\x"`, `"\ud83d"`, "\"\n\"",
	} {
		for _, deep := range []int{5, 20, math.MaxInt} {
			checkFails(t, s, deep, 1)
		}
	}
	for _, s := range noEncodings() {
		checkFails(t, s, 5, 1)
		checkFails(t, `["`+s+`"]`, 5, 1)
		checkFails(t, `{"`+s+`":1}`, 5, 1)
	}
}

// TestReadTextLimits has numbers for which there is no Dec, and depths that are too large.
func TestReadTextLimits(t *testing.T) {
	for _, s := range []string{
		"1e16", "-1e16", "1000000000000001", "-1000000000000001", "99999999999999999", "10000000000000000", "1e40", "1e41", "1e999", "-1e-999", "1e-17", "15e-17", "0.00000000000000001", "123456789012345678e-1", "1000000000000000.5e1", "0e41", "0e-41", "0e999", "1.5e-999", "12345678901234567e1", "1e-40", "1e-41",
		// Already as tokens.
		"1e1000", "123456789012345678", "1e-1000", "0e0000",
	} {
		for _, text := range []string{s, " " + s + " ", "[" + s + "]", "[1," + s + "]", "[" + s + ",1]", `{"a":` + s + "}", `{"a":1,"b":[[` + s + "]]}", "[" + s, "[" + s + "}", `{"a":` + s, s + " 1", "[" + s + " 1]"} {
			checkFails(t, text, 5, 2)
			checkFails(t, text, 0, 2)
		}
	}
	for _, c := range []struct {
		s    string
		want impl.Val
	}{
		{"1e15", intOf(1000000000000000)}, {"999999999999999.9", decOf(9999999999999999, -1)}, {"9999999999999999.9", decOf(99999999999999999, -1)}, {"0.0000000000000001", decOf(1, -16)}, {"10e-17", decOf(1, -16)}, {"10000000000000000e-1", intOf(1000000000000000)}, {"0e40", intOf(0)}, {"0e-40", intOf(0)}, {"10000000000000000e-32", decOf(1, -16)},
	} {
		checkReadText(t, c.s, 1, c.want, 0)
		checkReadText(t, "["+c.s+"]", 2, listOf(c.want), 0)
	}
	for _, s := range []string{"", "1", "null", `"a"`, "[]", "{}", "[[]]", `{"a":1}`, "]", "}", ":", ",", "[", "{", "1 2", "[1", `{1:1}`, "1e20"} {
		for _, deep := range []int{0, -1, -20, math.MinInt} {
			checkFails(t, s, deep, 2)
		}
	}
	for deep := 1; deep <= 40; deep++ {
		open, shut := strings.Repeat("[", deep), strings.Repeat("]", deep)
		names, ends := strings.Repeat(`{"a":`, deep-1), strings.Repeat("}", deep-1)
		for _, s := range []string{open + shut, "[1," + open[1:] + shut, "[" + open[1:] + shut[1:] + ",1]", names + "1" + ends, names + "{}" + ends, names + "[]" + ends} {
			if deep == 1 && strings.Contains(s, "1") && len(s) > 1 {
				continue
			}
			if v, code := impl.ReadText(s, deep); code != 0 || impl.DeepOf(v) != deep || impl.WriteText(v) != s {
				t.Errorf("ReadText(%q, %d) = %s, %d", s, deep, fieldsText(v), code)
			}
			checkFails(t, s, deep-1, 2)
		}
		// The value that would begin too deep may be anything, or missing.
		for _, x := range []string{"1", "null", `"a"`, "[", "{", "}", ":", ",", "", "1e20", "[]", "{}"} {
			checkFails(t, open+x, deep, 2)
			checkFails(t, names+`{"a":`+x, deep, 2)
			checkFails(t, names+`{"a":`+x+"]", deep, 2)
		}
		checkFails(t, names+`{"a":]`, deep, 2)
		checkReadText(t, open+shut, deep, chainOfLists(deep), 0)
		// A name is no value: what is wrong with it is a matter of form.
		for _, x := range []string{"1", "null", `"a"`, "[", "{", "]", ":", ",", "", "1e20", `"a"1`, `"a",`, `"a"}`, `"a"[`} {
			checkFails(t, names+"{"+x, deep, 1)
		}
	}
}

// chainOfLists is an empty list in lists, with this depth.
func chainOfLists(deep int) impl.Val {
	v := listOf()
	for range deep - 1 {
		v = listOf(v)
	}
	return v
}

// TestFirstError has texts with two errors.
func TestFirstError(t *testing.T) {
	for _, c := range []struct {
		s          string
		deep, code int
	}{
		{"[1e20,]", 5, 2}, {"[,1e20]", 5, 1}, {"[1e20 1]", 5, 2}, {"[1 1e20]", 5, 1}, {"[1,1e20", 5, 2}, {"[1,1e20}", 5, 2}, {"[1}1e20", 5, 1}, {"1 1e20", 5, 1}, {"1e20 1", 5, 2}, {"1e20 1e20", 5, 2}, {"]1e20", 5, 1}, {"[]1e20", 5, 1}, {"[1e20]]", 5, 2}, {"[1]]1e20", 5, 1},
		{`{1e20:1}`, 5, 1}, {`{"a":1e20`, 5, 2}, {`{"a" 1e20}`, 5, 1}, {`{"a":1e20,}`, 5, 2}, {`{"a":1,1e20:1}`, 5, 1}, {`{"a":1e20,1:1}`, 5, 2}, {`{"a":1,"b" 1e20}`, 5, 1}, {`{1:1e20}`, 5, 1}, {`{"a"::1e20}`, 5, 1},
		{"[[1", 1, 2}, {"[[1", 2, 2}, {"[[1", 3, 1}, {"[1 [1]]", 2, 1}, {"[[1] 1]", 2, 2}, {"[[] 1]", 2, 1}, {"[[]] [", 2, 1}, {"[[[]]]]", 2, 2}, {"[[[]]]]", 3, 1}, {"]]", 1, 1}, {"[}[[[", 2, 1}, {"[}[[[", 1, 2}, {"[1}[[[", 2, 1}, {"[[}", 2, 2}, {"[]}[[[", 1, 1},
		{`{"a":[1}`, 2, 2}, {`{"a":[1}`, 3, 1}, {`{"a" [1]}`, 1, 1}, {`{"a":1,[1]}`, 2, 1}, {`{"a":[1],}`, 2, 2}, {`{[1]:1}`, 1, 1}, {`{"a":[[1]],1}`, 3, 2}, {`{"a":[1e20]}`, 2, 2}, {`{}{"a":1}`, 1, 1},
		// What is no token comes before all that the tokens stand for, wherever it is.
		{"[1e20,x]", 5, 1}, {"1e20 x", 5, 1}, {"x", 0, 1}, {"[[[[x", 1, 1}, {"[[[[\"", 0, 1}, {"1 .", 0, 1}, {",1e1000", 5, 2}, {"]]]1e1000", 5, 2}, {"[1 2 3e1000", 5, 2}, {"1e20x1e1000", 5, 1}, {"1e1000x", 5, 2}, {"{1:1e1000x", 5, 2}, {"[[1e1000]]", 1, 2}, {"[,x,1e1000]", 5, 1}, {"nul", -1, 1}, {"1.", math.MinInt, 1},
	} {
		checkFails(t, c.s, c.deep, c.code)
	}
}

// parseAlphabet has a token for everything that the grammar tells apart.
func parseAlphabet() []impl.Token {
	return []impl.Token{signOf("["), signOf("]"), signOf("{"), signOf("}"), signOf(","), signOf(":"), stringOf("a"), numberOf(15, -1), numberOf(1, 20), wordOf("null"), {}}
}

// TestShortSequencesOfTokens checks all short sequences of tokens, and longer ones in which only the last token is an error.
func TestShortSequencesOfTokens(t *testing.T) {
	sequences := [][]impl.Token{{}}
	for long := range 10 {
		longer := [][]impl.Token{}
		for _, l := range sequences {
			for deep := -1; deep <= 4; deep++ {
				checkParse(t, l, deep)
			}
			if t.Failed() {
				t.FailNow()
			}
			_, rest, _ := parseValue(l, 1, 4)
			if long < 5 || len(rest) == 0 {
				for _, x := range parseAlphabet() {
					longer = append(longer, append(slices.Clone(l), x))
				}
			}
		}
		sequences = longer
	}
}

// TestTextsLikeTheLibrary checks that the same texts are JSON for the library, and in the same way.
func TestTextsLikeTheLibrary(t *testing.T) {
	parts := []string{"[", "]", "{", "}", ",", ":", `"a"`, "1", "null", " "}
	valid, invalid := 0, 0
	var visit func(s string, parts int)
	check := func(s string) {
		v, code := impl.ReadText(s, 100)
		if json.Valid([]byte(s)) != (code == 0) {
			t.Errorf("ReadText(%q) = %s, %d, unlike the library", s, fieldsText(v), code)
		}
		if code != 0 {
			invalid++
			return
		}
		valid++
		if text := impl.WriteText(v); text != "" && text != strings.ReplaceAll(s, " ", "") {
			t.Errorf("%q is read as %q", s, text)
		}
	}
	visit = func(s string, more int) {
		check(s)
		for _, p := range parts {
			if more > 0 {
				visit(s+p, more-1)
			}
		}
	}
	visit("", 5)
	random := rand.New(rand.NewSource(11))
	trees := textTrees()
	for range 20000 {
		s := impl.WriteText(trees[random.Intn(len(trees))])
		if len(s) > 200 || strings.ContainsAny(s, "\\\"") {
			// Escapes and bytes of strings have their own tests; a change of them matters less here.
			s = `{"a":[1,{"b":null}],"c":[[],{},true,-0.5]}`
		}
		b := []byte(s)
		for range 1 + random.Intn(3) {
			at := random.Intn(len(b))
			switch x := "[]{},:1 \""[random.Intn(9)]; random.Intn(3) {
			case 0:
				b[at] = x
			case 1:
				b = slices.Insert(b, at, x)
			default:
				b = append(slices.Delete(b, at, at+1), ' ')
			}
		}
		// The library does not limit numbers.
		if v, code := impl.ReadText(string(b), 100); code != 2 && json.Valid(b) != (code == 0) {
			t.Errorf("ReadText(%q) = %s, %d, unlike the library", b, fieldsText(v), code)
		}
	}
	if valid < 150 || invalid < 50000 {
		t.Errorf("only %d valid and %d invalid texts", valid, invalid)
	}
}

// TestParseTokens has tokens with any fields, also such as no text has.
func TestParseTokens(t *testing.T) {
	for _, c := range []struct {
		token impl.Token
		want  impl.Val
	}{
		// The fields that a kind does not use do not matter.
		{impl.Token{Kind: 2, S: "x", N: 5, X: -3}, textOf("x")}, {impl.Token{Kind: 3, S: "null", N: 25, X: -1}, decOf(25, -1)}, {impl.Token{Kind: 3, S: "]", N: 20, X: -1}, intOf(2)}, {impl.Token{Kind: 4, S: "null", N: 7, X: 7}, nullVal()}, {impl.Token{Kind: 4, S: "true", N: 7}, impl.Val{Kind: 2, N: 1}}, {impl.Token{Kind: 4, S: "false", N: 1, X: 1}, impl.Val{Kind: 2}},
		// Any S is a string's content.
		{stringOf("\xff"), textOf("\xff")}, {stringOf("\xed\xa0\x80"), textOf("\xed\xa0\x80")}, {stringOf("["), textOf("[")}, {stringOf("null"), textOf("null")},
		{numberOf(0, 40), intOf(0)}, {numberOf(0, -40), intOf(0)}, {numberOf(99999999999999999, -1), decOf(99999999999999999, -1)}, {numberOf(-10000000000000000, -32), decOf(-1, -16)},
	} {
		for _, deep := range []int{2, 3, 20, math.MaxInt} {
			for _, x := range []struct {
				l    []impl.Token
				want impl.Val
			}{
				{[]impl.Token{c.token}, c.want},
				{[]impl.Token{{Kind: 1, S: "[", N: 1}, c.token, {Kind: 1, S: "]", X: -2}}, listOf(c.want)},
				{[]impl.Token{signOf("["), numberOf(1, 0), {Kind: 1, S: ",", N: 9}, c.token, signOf("]")}, listOf(intOf(1), c.want)},
				{[]impl.Token{{Kind: 1, S: "{", N: 1}, {Kind: 2, S: "a", X: 2}, {Kind: 1, S: ":", X: 3}, c.token, {Kind: 1, S: "}", N: -4}}, mapOf(textOf("a"), c.want)},
			} {
				if got, code := impl.ParseTokens(x.l, deep); code != 0 || fieldsText(got) != fieldsText(x.want) {
					t.Errorf("ParseTokens(%v, %d) = %s, %d, want %s, 0", x.l, deep, fieldsText(got), code, fieldsText(x.want))
				}
			}
		}
	}
	// The string of a name may be any one too.
	l := []impl.Token{signOf("{"), stringOf("\xff"), signOf(":"), wordOf("null"), signOf("}")}
	if got, code := impl.ParseTokens(l, 2); code != 0 || fieldsText(got) != fieldsText(mapOf(textOf("\xff"), nullVal())) {
		t.Errorf("ParseTokens(%v, 2) = %s, %d", l, fieldsText(got), code)
	}
}

// TestParseTokensRejects has tokens that are no values, and such as no text has.
func TestParseTokensRejects(t *testing.T) {
	none := fieldsText(impl.Val{})
	check := func(code int, deep int, l ...impl.Token) {
		t.Helper()
		if got, gotCode := impl.ParseTokens(l, deep); gotCode != code || fieldsText(got) != none {
			t.Errorf("ParseTokens(%v, %d) = %s, %d, want the zero Val, %d", l, deep, fieldsText(got), gotCode, code)
		}
	}
	open, shut, begin, end, comma, colon, a, one := signOf("["), signOf("]"), signOf("{"), signOf("}"), signOf(","), signOf(":"), stringOf("a"), numberOf(1, 0)
	for _, c := range []struct {
		token impl.Token
		code  int
	}{
		{impl.Token{}, 1}, {impl.Token{Kind: 0, S: "["}, 1}, {impl.Token{Kind: 0, S: "null", N: 1}, 1}, {impl.Token{Kind: 5, S: "null"}, 1}, {impl.Token{Kind: 5, N: 1}, 1}, {impl.Token{Kind: -1, S: "["}, 1}, {impl.Token{Kind: -2, S: "a"}, 1}, {impl.Token{Kind: 1<<32 + 2, S: "a"}, 1}, {impl.Token{Kind: 256 + 3}, 1}, {impl.Token{Kind: math.MaxInt}, 1}, {impl.Token{Kind: math.MinInt, S: "true"}, 1}, {impl.Token{Kind: 0, S: "]"}, 1}, {impl.Token{Kind: 4, S: ","}, 1}, {impl.Token{Kind: 4, S: ":"}, 1}, {impl.Token{Kind: 5, S: "}"}, 1},
		{signOf(""), 1}, {signOf("[]"), 1}, {signOf("{}"), 1}, {signOf(" ["), 1}, {signOf("null"), 1}, {signOf("("), 1}, {signOf("\""), 1}, {signOf(",,"), 1}, {signOf(": "), 1}, {signOf("a"), 1}, {impl.Token{Kind: 1, N: 1}, 1},
		{wordOf(""), 1}, {wordOf("nul"), 1}, {wordOf("nullx"), 1}, {wordOf("NULL"), 1}, {wordOf("True"), 1}, {wordOf("["), 1}, {wordOf("]"), 1}, {wordOf("{"), 1}, {wordOf("null "), 1}, {wordOf("1"), 1}, {wordOf("undefined"), 1}, {wordOf("truefalse"), 1},
		{numberOf(1, 16), 2}, {numberOf(1, -17), 2}, {numberOf(0, 41), 2}, {numberOf(0, -41), 2}, {numberOf(0, math.MinInt), 2}, {numberOf(0, math.MaxInt), 2}, {numberOf(math.MinInt, 0), 2}, {numberOf(math.MaxInt, 0), 2}, {numberOf(math.MinInt, math.MinInt), 2}, {numberOf(100000000000000000, -10), 2}, {numberOf(impl.MaxInt+1, 0), 2}, {numberOf(1, 1<<32), 2}, {numberOf(1, -1<<32), 2},
	} {
		x := c.token
		for _, deep := range []int{2, 3, 20, math.MaxInt} {
			check(c.code, deep, x)
			check(c.code, deep, x, one)
			check(c.code, deep, open, x)
			check(c.code, deep, open, x, shut)
			check(c.code, deep, open, one, comma, x, shut)
			check(c.code, deep, begin, a, colon, x, end)
			// Behind a tree, and in place of a name or another sign, a form is required.
			check(1, deep, one, x)
			check(1, deep, open, shut, x)
			check(1, deep, open, one, x)
			check(1, deep, open, one, x, one, shut)
			check(1, deep, begin, x)
			check(1, deep, begin, x, colon, one, end)
			check(1, deep, begin, a, x, one, end)
			check(1, deep, begin, a, colon, one, x, a, colon, one, end)
			check(1, deep, begin, a, colon, one, comma, x, colon, one, end)
		}
		check(2, 0, x)
		check(2, 1, open, x, shut)
		check(2, 1, begin, a, colon, x, end)
		check(1, 1, begin, x, colon, one, end)
	}
	for _, sign := range []impl.Token{shut, end, comma, colon} {
		check(1, 1, sign)
		check(1, 20, sign)
		check(2, 0, sign)
	}
	for _, deep := range []int{1, 2, 20, math.MaxInt} {
		check(1, deep)
	}
	for _, deep := range []int{0, -1, math.MinInt} {
		check(2, deep)
	}
}

// TestParseAllNumbers checks that exactly the numbers with a Dec are read.
func TestParseAllNumbers(t *testing.T) {
	for _, n := range edgeInts() {
		for x := -60; x <= 60; x++ {
			checkParse(t, []impl.Token{numberOf(n, x)}, 1)
			checkParse(t, []impl.Token{signOf("["), numberOf(n, x), signOf("]"), signOf("]")}, 2)
		}
		checkParse(t, []impl.Token{numberOf(n, n)}, 1)
		checkParse(t, []impl.Token{numberOf(1, n)}, 1)
	}
	for _, d := range validDecs() {
		want := decOf(d.N, d.X)
		if d.X == 0 {
			want = intOf(d.N)
		}
		checkReadText(t, impl.DecText(d), 1, want, 0)
	}
}

func TestReformat(t *testing.T) {
	for _, c := range []struct {
		s, want string
		code    int
	}{
		{"", "", 0}, {"  ", "", 0}, {"[1,2]", "[ 1 , 2 ]", 0}, {" [ 1 ,\n2 ] ", "[ 1 , 2 ]", 0}, {`{"a":[-1.50,null]}`, `{ "a" : [ -150e-2 , null ] }`, 0}, {`"\u0041\/é"`, `"A/é"`, 0}, {"1E2", "1e2", 0}, {"truefalse", "true false", 0}, {`" a  b "`, `" a  b "`, 0},
		// What Reformat joins need not be a tree.
		{"]},:", "] } , :", 0}, {"[1,]", "[ 1 , ]", 0}, {"01", "0 1", 0}, {"1e20", "1e20", 0}, {`{1:"a"`, `{ 1 : "a"`, 0}, {",,", ", ,", 0}, {strings.Repeat("[", 30), strings.Repeat("[ ", 29) + "[", 0},
		{"x", "", 1}, {"[1,x]", "", 1}, {"[1,\"a", "", 1}, {"nul", "", 1}, {"1.", "", 1}, {"[] \xff", "", 1}, {"1e1000", "", 2}, {"[1,123456789012345678]", "", 2}, {"[1e1000 x", "", 2}, {"[x 1e1000", "", 1},
	} {
		if got, code := impl.Reformat(c.s); got != c.want || code != c.code {
			t.Errorf("Reformat(%q) = %q, %d, want %q, %d", c.s, got, code, c.want, c.code)
		}
	}
	for _, s := range texts("[,1x\" ", 5) {
		l, wantCode := tokensIn(s)
		parts := []string{}
		for _, k := range l {
			parts = append(parts, textOfToken(k))
		}
		if got, code := impl.Reformat(s); got != strings.Join(parts, " ") || code != wantCode {
			t.Errorf("Reformat(%q) = %q, %d, want %q, %d", s, got, code, strings.Join(parts, " "), wantCode)
		}
	}
	for _, v := range textTrees() {
		once, code := impl.Reformat(impl.WriteText(v))
		again, againCode := impl.Reformat(once)
		if code != 0 || againCode != 0 || again != once {
			t.Errorf("Reformat of %q = %q, %d, and again %q, %d", impl.WriteText(v), once, code, again, againCode)
		}
		if got, code := impl.ReadText(once, math.MaxInt); code != 0 || fieldsText(got) != fieldsText(v) {
			t.Errorf("ReadText(%q) = %s, %d, want %s", once, fieldsText(got), code, fieldsText(v))
		}
	}
}

func TestTokensOf(t *testing.T) {
	a := textOf("a")
	for _, c := range []struct {
		v    impl.Val
		want []impl.Token
	}{
		{nullVal(), []impl.Token{wordOf("null")}}, {intOf(-5), []impl.Token{numberOf(-5, 0)}}, {decOf(25, -1), []impl.Token{numberOf(25, -1)}}, {textOf("\n"), []impl.Token{stringOf("\n")}}, {listOf(), []impl.Token{signOf("["), signOf("]")}}, {mapOf(), []impl.Token{signOf("{"), signOf("}")}},
		{mapOf(a, listOf(intOf(1), impl.Val{Kind: 2, N: 1})), []impl.Token{signOf("{"), stringOf("a"), signOf(":"), signOf("["), numberOf(1, 0), signOf(","), wordOf("true"), signOf("]"), signOf("}")}},
		{impl.Val{}, nil}, {bytesOf("a"), nil}, {listOf(fltOf(1, 0)), nil}, {mapOf(a, a, a, a), nil}, {mapOf(a), nil}, {mapOf(intOf(1), a), nil}, {textOf("\xff"), nil},
	} {
		if got := impl.TokensOf(c.v); !slices.Equal(got, c.want) {
			t.Errorf("TokensOf(%s) = %v, want %v", fieldsText(c.v), got, c.want)
		}
	}
	for _, v := range textTrees() {
		want, code := tokensIn(textByDefinition(v))
		if got := impl.TokensOf(v); code != 0 || !slices.Equal(got, want) {
			t.Errorf("TokensOf(%s) = %v, want %v", fieldsText(v), got, want)
		}
	}
	for _, v := range otherTrees() {
		if got := impl.TokensOf(v); len(got) != 0 {
			t.Errorf("TokensOf(%s) = %v, want none", fieldsText(v), got)
		}
	}
}

// TestTreesOfTextsAreNew changes and extends every L of a result, and looks at the others.
func TestTreesOfTextsAreNew(t *testing.T) {
	s := `{"a":[1,[2,3],[]],"b":{"a":[[],{}],"c":[4,5,6]},"c":[]}`
	want, _ := impl.ReadText(s, 9)
	for i := range placesIn(&want) {
		l := impl.TokensOf(want)
		got, _ := impl.ParseTokens(l, 9)
		place := placesIn(&got)[i]
		place.L = append(place.L, intOf(77), intOf(78))
		for k := range place.L {
			place.L[k] = intOf(-9)
		}
		expected := deepCopy(want, nil)
		changed := placesIn(&expected)[i]
		changed.L = slices.Repeat(vals(intOf(-9)), len(place.L))
		checkVal(t, "the changed tree", got, expected)
		for k := range l {
			l[k] = impl.Token{Kind: 2, S: "changed"}
		}
		checkVal(t, "the changed tree, with changed tokens,", got, expected)
		if again, code := impl.ReadText(s, 9); code != 0 || fieldsText(again) != fieldsText(want) {
			t.Errorf("ReadText after a change of its result = %s, %d", fieldsText(again), code)
		}
	}
	first, second := impl.TokensOf(want), impl.TokensOf(want)
	kept := slices.Clone(second)
	for i := range first {
		first[i] = impl.Token{}
	}
	if !slices.Equal(second, kept) {
		t.Errorf("a change of a result of TokensOf makes another one %v", second)
	}
}

func TestArgumentsOfTextsStay(t *testing.T) {
	for _, v := range slices.Concat(textTrees(), otherTrees()) {
		before := fieldsText(v)
		impl.FitsText(v)
		impl.WriteText(v)
		impl.TokensOf(v)
		if after := fieldsText(v); after != before {
			t.Errorf("%s has become %s", before, after)
		}
	}
	// Neither values nor tokens behind the length are read or written.
	room := vals(textOf("a"), intOf(1), textOf("a"), bytesOf("x"))
	if v := mapOf(room[:2]...); !impl.FitsText(v) || impl.WriteText(v) != `{"a":1}` || len(impl.TokensOf(v)) != 5 {
		t.Errorf("WriteText reads behind the elements: %q", impl.WriteText(v))
	}
	checkVal(t, "the room", listOf(room...), listOf(textOf("a"), intOf(1), textOf("a"), bytesOf("x")))
	tokens := []impl.Token{signOf("["), numberOf(1, 0), signOf("]"), signOf(","), numberOf(2, 0)}
	kept := slices.Clone(tokens)
	for long, want := range []int{1, 1, 1, 0, 1, 1} {
		if v, code := impl.ParseTokens(tokens[:long], 2); code != want {
			t.Errorf("ParseTokens of the first %d tokens = %s, %d, want %d", long, fieldsText(v), code, want)
		}
	}
	if !slices.Equal(tokens, kept) {
		t.Errorf("ParseTokens changes its argument: %v", tokens)
	}
}

// TestTextResultsDependOnArguments calls in another order, with failures in between.
func TestTextResultsDependOnArguments(t *testing.T) {
	random := rand.New(rand.NewSource(110))
	calls := []string{"[1,2]", "[1,]", "1e20", `{"a":[]}`, "[[[[", "", "x", "]", `{"a":1,"a":2}`, "[[1]]"}
	type result struct {
		fields string
		code   int
	}
	want := map[string]result{}
	for _, s := range calls {
		v, code := impl.ReadText(s, 3)
		want[s] = result{fieldsText(v), code}
	}
	for range 500 {
		s := calls[random.Intn(len(calls))]
		if v, code := impl.ReadText(s, 3); want[s] != (result{fieldsText(v), code}) {
			t.Errorf("ReadText(%q, 3) = %s, %d, and before %v", s, fieldsText(v), code, want[s])
		}
	}
}

func TestDeepTexts(t *testing.T) {
	const deep = 100000
	good, bad := chain(deep, textOf("a")), chain(deep, bytesOf("a"))
	s := strings.Repeat("[null,", deep-1) + `"a"` + strings.Repeat(",null]", deep-1)
	if !impl.FitsText(good) || impl.FitsText(bad) || impl.WriteText(bad) != "" {
		t.Error("FitsText is wrong for deep trees")
	}
	if got := impl.WriteText(good); got != s {
		t.Errorf("WriteText of a deep tree has %d bytes, want %d", len(got), len(s))
	}
	if got, code := impl.ReadText(s, deep); code != 0 || !impl.SameVal(got, good) {
		t.Errorf("ReadText of a deep tree has the code %d", code)
	}
	if got, code := impl.ReadText(s, deep-1); code != 2 || got.Kind != 0 || len(got.L) != 0 {
		t.Errorf("ReadText of a tree that is too deep has the code %d", code)
	}
	for _, c := range []struct {
		s    string
		code int
	}{{s[:len(s)-1], 1}, {s + "]", 1}, {s[:len(s)-1] + "}", 1}, {s[:len(s)-1] + ",]", 1}, {strings.Replace(s, `"a"`, "1e20", 1), 2}, {strings.Replace(s, `"a"`, "", 1), 1}, {strings.Repeat("[", deep), 2}, {strings.Repeat("[", deep-1), 1}, {strings.Repeat("]", deep), 1}, {strings.Repeat(`{"a":`, deep), 2}, {strings.Repeat(`{"a":`, deep-1), 1}} {
		if got, code := impl.ReadText(c.s, deep); code != c.code || got.Kind != 0 || len(got.L) != 0 {
			t.Errorf("ReadText of a deep text has the code %d, want %d", code, c.code)
		}
	}
	maps := strings.Repeat(`{"a":`, deep-1) + "{}" + strings.Repeat("}", deep-1)
	if got, code := impl.ReadText(maps, deep); code != 0 || impl.DeepOf(got) != deep || impl.WriteText(got) != maps {
		t.Errorf("ReadText of deep maps has the code %d", code)
	}
}

func TestTextsOfEveryWidth(t *testing.T) {
	l, m := listOf(), mapOf()
	for n := range 150 {
		for _, v := range []impl.Val{l, m, listOf(l, m), mapOf(textOf("a"), m, textOf("b"), l)} {
			s := textByDefinition(v)
			if got := impl.WriteText(v); got != s {
				t.Errorf("WriteText(%s) = %q, want %q", fieldsText(v), got, s)
			}
			checkReadText(t, s, 3, v, 0)
			checkFails(t, s[:len(s)-1], 3, 1)
			checkFails(t, s[:len(s)-1]+","+s[len(s)-1:], 3, 1)
		}
		l.L = append(l.L, intOf(n))
		m.L = append(m.L, textOf(string(rune('a'+n))), intOf(-n))
	}
}

func TestWideTexts(t *testing.T) {
	const wide = 100000
	m, l := mapOf(), listOf()
	for n := range wide {
		m.L = append(m.L, textOf(string(rune(0x10000+n))), listOf(intOf(n)))
		l.L = append(l.L, decOf(10*n+1, -3))
	}
	for _, v := range []impl.Val{m, l, listOf(m, l)} {
		s := impl.WriteText(v)
		if got, code := impl.ReadText(s, 4); code != 0 || !impl.SameVal(got, v) {
			t.Errorf("a wide tree is not read back from %d bytes: %d", len(s), code)
		}
		if got, code := impl.ReadText(s[:len(s)-1]+","+s[len(s)-1:], 4); code != 1 || len(got.L) != 0 {
			t.Errorf("a wide tree with a trailing comma is read: %d", code)
		}
	}
	m.L = append(m.L, m.L[wide], nullVal())
	if impl.FitsText(m) || impl.WriteText(m) != "" {
		t.Error("equal names of a wide map fit")
	}
}
