package tests

import (
	"encoding/json"
	"fmt"
	"math"
	"regexp"
	"slices"
	"strconv"
	"strings"
	"testing"
	"unicode/utf16"
	"unicode/utf8"

	"loop.example/g00502/impl"
)

// quotedParts are what may stand between the quotes, each with the characters that it stands for.
var quotedParts = []struct {
	form   *regexp.Regexp
	decode func(part string) string
}{
	{regexp.MustCompile(`^[^"\\\x00-\x1f]`), func(part string) string { return part }},
	{regexp.MustCompile(`^\\["\\/]`), func(part string) string { return part[1:] }},
	{regexp.MustCompile(`^\\[btnfr]`), func(part string) string {
		return strings.NewReplacer(`\b`, "\b", `\t`, "\t", `\n`, "\n", `\f`, "\f", `\r`, "\r").Replace(part)
	}},
	// All numbers but those from d800 to dfff.
	{regexp.MustCompile(`^\\u([0-9a-cA-CefEF][0-9a-fA-F]{3}|[dD][0-7][0-9a-fA-F]{2})`), func(part string) string {
		return string(hexNumber(part[2:6]))
	}},
	// A number from d800 to dbff with one from dc00 to dfff behind it.
	{regexp.MustCompile(`^\\u[dD][89abAB][0-9a-fA-F]{2}\\u[dD][c-fC-F][0-9a-fA-F]{2}`), func(part string) string {
		return string(utf16.DecodeRune(hexNumber(part[2:6]), hexNumber(part[8:12])))
	}},
}

func hexNumber(digits string) rune {
	n, err := strconv.ParseInt(digits, 16, 32)
	if err != nil {
		panic(err)
	}
	return rune(n)
}

// readQuoted restates ReadQuoted with regular expressions.
func readQuoted(s string, at int) (string, int, int) {
	if at < 0 || at >= len(s) || s[at] != '"' {
		return "", 0, 1
	}
	text := ""
	for at++; at < len(s) && s[at] != '"'; {
		before := at
		for _, p := range quotedParts {
			// A wrong byte is no character, although it matches like one.
			if part := p.form.FindString(s[at:]); part != "" && utf8.ValidString(part) {
				text += p.decode(part)
				at += len(part)
				break
			}
		}
		if at == before {
			return "", 0, 1
		}
	}
	if at == len(s) {
		return "", 0, 1
	}
	return text, at + 1, 0
}

// checkQuoted holds promise 9 for one text and offset: exactly the quoted forms are read, each as its string.
func checkQuoted(t *testing.T, s string, at int) {
	t.Helper()
	want, wantNext, wantCode := readQuoted(s, at)
	if got, next, code := impl.ReadQuoted(s, at); got != want || next != wantNext || code != wantCode {
		t.Errorf("ReadQuoted(%q, %d) = %q, %d, %d, want %q, %d, %d", s, at, got, next, code, want, wantNext, wantCode)
	}
}

// checkReads checks that a quoted form, wherever it stands, is read as its string.
func checkReads(t *testing.T, quoted, want string) {
	t.Helper()
	for _, before := range []string{"", `"`, `\`, "a\xff", `"\`, "é"} {
		for _, after := range []string{"", `"`, "x", `\"`, "\xff", "\x00"} {
			got, next, code := impl.ReadQuoted(before+quoted+after, len(before))
			if got != want || next != len(before)+len(quoted) || code != 0 {
				t.Errorf("ReadQuoted(%q, %d) = %q, %d, %d, want %q, %d, 0", before+quoted+after, len(before), got, next, code, want, len(before)+len(quoted))
			}
		}
	}
}

// checkRejects checks that the form of a text is wrong, wherever it stands. The text does not depend on what follows it.
func checkRejects(t *testing.T, s string) {
	t.Helper()
	for _, before := range []string{"", `"`, `\`, "a\xff", `"\`} {
		got, next, code := impl.ReadQuoted(before+s, len(before))
		if got != "" || next != 0 || code != 1 {
			t.Errorf("ReadQuoted(%q, %d) = %q, %d, %d, want nothing, 0, 1", before+s, len(before), got, next, code)
		}
	}
}

// escapeByDefinition restates EscapeOf.
func escapeByDefinition(n int) string {
	switch {
	case n == '"', n == '\\':
		return `\` + string(rune(n))
	case n == 8:
		return `\b`
	case n == 9:
		return `\t`
	case n == 10:
		return `\n`
	case n == 12:
		return `\f`
	case n == 13:
		return `\r`
	case n >= 0 && n < 32:
		return fmt.Sprintf(`\u%04x`, n)
	}
	return string(encodingOf(n))
}

// quoteByDefinition restates Quote for a text.
func quoteByDefinition(s string) string {
	b := strings.Builder{}
	for _, r := range s {
		b.WriteString(escapeByDefinition(int(r)))
	}
	return `"` + b.String() + `"`
}

// quotableTexts are texts with every kind of character.
func quotableTexts() []string {
	l := []string{"", "a", "aé", `"`, `\`, `\\`, `""`, `\"`, `"a"`, `\n`, `\u0041`, `\ud83d\ude00`, "/", "a/b", "\u007f", "\u0080", "\u2028\u2029", "\ufeff", "\ufffd", "\U0001f600", "\U0010ffff", "\ud7ff\ue000", "'", "<&>", "a\x00b", "\x00\x00", strings.Repeat("\x01", 3000), strings.Repeat(`\`, 3001), strings.Repeat("€\"\n", 2000)}
	every := ""
	for n := range 300 {
		l = append(l, string(rune(n)), "x"+string(rune(n)), string(rune(n))+"0")
		every += string(rune(n))
	}
	return append(l, every, impl.FromRunes(edgeCharacters()))
}

func TestQuoteConstants(t *testing.T) {
	if impl.ErGood != 0 || impl.ErForm != 1 || impl.ErLimit != 2 {
		t.Error("a constant of chapter 9 has another value")
	}
}

func TestEscapeOf(t *testing.T) {
	for _, c := range []struct {
		n    int
		want string
	}{
		{0, `\u0000`}, {1, `\u0001`}, {7, `\u0007`}, {8, `\b`}, {9, `\t`}, {10, `\n`}, {11, `\u000b`}, {12, `\f`}, {13, `\r`}, {14, `\u000e`}, {15, `\u000f`}, {16, `\u0010`}, {27, `\u001b`}, {31, `\u001f`},
		{32, " "}, {33, "!"}, {34, `\"`}, {35, "#"}, {39, "'"}, {47, "/"}, {91, "["}, {92, `\\`}, {93, "]"}, {98, "b"}, {116, "t"}, {117, "u"}, {127, "\x7f"}, {128, "\u0080"}, {159, "\u009f"}, {233, "é"}, {8232, "\u2028"}, {65533, "\ufffd"}, {65535, "\uffff"}, {128512, "\U0001f600"}, {1114111, "\U0010ffff"},
	} {
		if got := impl.EscapeOf(c.n); got != c.want {
			t.Errorf("EscapeOf(%d) = %q, want %q", c.n, got, c.want)
		}
	}
	for n := -1000; n <= impl.MaxRune+1000; n++ {
		if got := impl.EscapeOf(n); got != escapeByDefinition(n) {
			t.Fatalf("EscapeOf(%d) = %q, want %q", n, got, escapeByDefinition(n))
		}
	}
	far := []int{1<<32 + 8, 1<<32 + 34, 1<<32 + 92, 256 + 1<<32, -1<<32 + 10, math.MinInt + 9, 1<<63 - 1}
	for _, n := range append(far, nonCharacters()...) {
		if got := impl.EscapeOf(n); got != "" {
			t.Errorf("EscapeOf(%d) = %q, want nothing", n, got)
		}
	}
}

func TestQuote(t *testing.T) {
	for _, c := range [][2]string{
		{"", `""`}, {"a", `"a"`}, {"aé€\U0001f600", "\"aé€\U0001f600\""}, {`"`, `"\""`}, {`\`, `"\\"`}, {`\"`, `"\\\""`}, {"/", `"/"`}, {"\b\t\n\f\r", `"\b\t\n\f\r"`}, {"\x00", `"\u0000"`}, {"\x0b\x1f", `"\u000b\u001f"`}, {"\x7f\u0080", "\"\x7f\u0080\""}, {"a\"\n\x01é", "\"a\\\"\\n\\u0001é\""}, {`\n`, `"\\n"`}, {`\u0041`, `"\\u0041"`}, {"\ufffd", "\"\ufffd\""}, {" ", `" "`}, {"\x01" + "23", `"\u000123"`},
	} {
		if got := impl.Quote(c[0]); got != c[1] {
			t.Errorf("Quote(%q) = %s, want %s", c[0], got, c[1])
		}
	}
	for _, s := range quotableTexts() {
		if got := impl.Quote(s); got != quoteByDefinition(s) {
			t.Errorf("Quote(%.40q) = %.80q, want %.80q", s, got, quoteByDefinition(s))
		}
	}
}

func TestQuoteOfNoText(t *testing.T) {
	for _, s := range noEncodings() {
		for _, text := range []string{s, "a" + s, s + "a", "\n\"" + s + "\\", "\ufffd" + s} {
			if got := impl.Quote(text); got != "" {
				t.Errorf("Quote(%q) = %q, want nothing", text, got)
			}
			if impl.Bare(text) {
				t.Errorf("Bare(%q) = true", text)
			}
		}
	}
}

// TestQuotedIsReadBack holds promise 9 for what Quote writes. The library reads the same strings.
func TestQuotedIsReadBack(t *testing.T) {
	for _, s := range quotableTexts() {
		quoted := impl.Quote(s)
		checkReads(t, quoted, s)
		other := ""
		if err := json.Unmarshal([]byte(quoted), &other); err != nil || other != s {
			t.Errorf("the library reads Quote(%.40q) as %.40q, %v", s, other, err)
		}
	}
	for n := 0; n <= impl.MaxRune; n++ {
		if !isCharacter(n) {
			continue
		}
		s := "a" + string(encodingOf(n)) + "0"
		quoted := impl.Quote(s)
		if got, next, code := impl.ReadQuoted(quoted, 0); got != s || next != len(quoted) || code != 0 {
			t.Fatalf("ReadQuoted(%q, 0) = %q, %d, %d, want %q", quoted, got, next, code, s)
		}
	}
}

func TestQuotesOfTextsDiffer(t *testing.T) {
	seen := map[string]string{}
	for _, s := range append(quotableTexts(), texts("\"\\nu0\n\x00", 5)...) {
		quoted := impl.Quote(s)
		if other, ok := seen[quoted]; ok && other != s {
			t.Errorf("Quote(%q) and Quote(%q) are both %q", s, other, quoted)
		}
		seen[quoted] = s
		if got, _, code := impl.ReadQuoted(quoted, 0); got != s || code != 0 {
			t.Errorf("ReadQuoted(%q, 0) = %q, %d, want %q", quoted, got, code, s)
		}
	}
}

func TestReadQuoted(t *testing.T) {
	for _, c := range [][2]string{
		{`""`, ""}, {`"a"`, "a"}, {`"aé€"`, "aé€"}, {`" "`, " "}, {`"/"`, "/"}, {"\"\x7f\"", "\x7f"}, {"\"\u0080\u009f\"", "\u0080\u009f"}, {"\"\ufffd\"", "\ufffd"}, {"\"\u2028\uffff\U0010ffff\"", "\u2028\uffff\U0010ffff"}, {`"'{}[]:,"`, "'{}[]:,"},
		// Every escape letter.
		{`"\""`, `"`}, {`"\\"`, `\`}, {`"\/"`, "/"}, {`"\b"`, "\b"}, {`"\t"`, "\t"}, {`"\n"`, "\n"}, {`"\f"`, "\f"}, {`"\r"`, "\r"}, {`"\"\\\/\b\t\n\f\r"`, "\"\\/\b\t\n\f\r"}, {`"\\n"`, `\n`}, {`"\\\\"`, `\\`}, {`"\\\""`, `\"`}, {`"a\"b\"c"`, `a"b"c`}, {`"\\u0041"`, `\u0041`},
		// Numbers, also those of characters that need no escape or have a shorter one, and those that would not stand for themselves.
		{`"\u0041"`, "A"}, {`"\u00e9"`, "é"}, {`"\u00E9"`, "é"}, {`"\u20ac"`, "€"}, {`"\u20Ac"`, "€"}, {`"\u0000"`, "\x00"}, {`"\u001f"`, "\x1f"}, {`"\u001F"`, "\x1f"}, {`"\u000a"`, "\n"}, {`"\u0022"`, `"`}, {`"\u005c"`, `\`}, {`"\u005Cn"`, `\n`}, {`"\u005cu0041"`, `\u0041`}, {`"\u002f"`, "/"}, {`"\u007f\u0080\u07ff\u0800"`, "\u007f\u0080\u07ff\u0800"}, {`"\ufffd"`, "\ufffd"}, {`"\uFFFF\uffFE"`, "\uffff\ufffe"}, {`"\ud7ff\ue000"`, "\ud7ff\ue000"}, {`"\uD7FF\uE000"`, "\ud7ff\ue000"}, {`"\u00411"`, "A1"}, {`"\u0041e"`, "Ae"}, {`"\u0041\u0042"`, "AB"}, {`"x\u0041y"`, "xAy"},
		// Pairs of surrogates.
		{`"\ud83d\ude00"`, "\U0001f600"}, {`"\uD83D\uDE00"`, "\U0001f600"}, {`"\uD83d\uDe00"`, "\U0001f600"}, {`"\ud83d\ude00\/"`, "\U0001f600/"}, {`"\ud800\udc00"`, "\U00010000"}, {`"\ud800\udfff"`, "\U000103ff"}, {`"\ud801\udc00"`, "\U00010400"}, {`"\udbff\udc00"`, "\U0010fc00"}, {`"\udbff\udfff"`, "\U0010ffff"}, {`"\ud83d\ude00\ud83d\ude01"`, "\U0001f600\U0001f601"}, {`"a\ud83d\ude00b"`, "a\U0001f600b"}, {`"\ud83d\ude0000"`, "\U0001f60000"}, {"\"\\ud83d\\ude00\U0001f600\"", "\U0001f600\U0001f600"},
	} {
		checkReads(t, c[0], c[1])
		if want, next, code := readQuoted(c[0], 0); want != c[1] || next != len(c[0]) || code != 0 {
			t.Errorf("the test reads %s as %q, %d, %d", c[0], want, next, code)
		}
	}
}

func TestReadQuotedRejects(t *testing.T) {
	for _, s := range []string{
		// No quote at the offset, or none at the end.
		"", "a", "a\"", " \"a\"", `\"`, `'a'`, "\u201ca\u201d", `"`, `"a`, `"aé`, `"\"`, `"a\"`, `"\\\"`, `"\\`, `"\u0022`, `"\u0041`, "\"a\u201d",
		// Escape sequences that do not exist, or are incomplete.
		`"\`, `"a\`, `"\\\`, `"\a"`, `"\B"`, `"\T"`, `"\N"`, `"\F"`, `"\R"`, `"\U0041"`, `"\0"`, `"\v"`, `"\x41"`, `"\'"`, `"\ "`, `"\e"`, `"\s"`, "\"\\\n\"", "\"\\\x00\"", "\"\\\x08\"", "\"\\é\"", "\"\\\xff\"", "\"\\\u2028\"",
		`"\u`, `"\u0`, `"\u00`, `"\u004`, `"\u"`, `"\u4"`, `"\u41"`, `"\u041"`, `"\u041g"`, `"\ug041"`, `"\u 041"`, `"\u041 "`, `"\u+041"`, `"\u-041"`, `"\u0x4"`, `"\u0X41"`, `"\u_041"`, `"\u0_41"`, `"\u00_1"`, `"\u{41}"`, `"\u٠٠"`, `"\u0041\"`, `"\u\u0041"`, "\"\\u00\xff1\"", "\"\\u00é1\"", `"\u004/"`, `"\u004:"`, `"\u004@"`, `"\u004G"`, "\"\\u004`\"", `"\u004O"`, `"\ud83"`,
		// A high surrogate without a low one behind it.
		`"\ud83d"`, `"\uD83D"`, `"\ud800"`, `"\udbff"`, `"\uDBFF"`, `"\ud83dx"`, `"\ud83d `, `"\ud83d \ude00"`, `"\ud83d/\ude00"`, `"\ud83d\n\ude00"`, `"\ud83d\\ude00"`, `"\ud83d\"`, `"\ud83d\`, `"\ud83d\u`, `"\ud83d\ude0`, `"\ud83d\ude0"`, `"\ud83d\ude0g"`, `"\ud83d\Ude00"`, `"\ud83dude00"`, `"\ud83d\u0041"`, `"\ud83d\ud83d"`, `"\ud83d\ud83d\ude00"`, `"\ud83d\ud7ff"`, `"\ud83d\udbff"`, `"\ud83d\ue000"`, `"\ud83d\u0000"`, `"\ud83d\uffff"`, "\"\\ud83d\U0001f600\"", "\"\\ud83d\xed\xb8\x80\"", `"a\ud83d"`, `"\ud83d\ude00\ud83d"`,
		// A low surrogate alone.
		`"\udc00"`, `"\ude00"`, `"\uDE00"`, `"\udfff"`, `"\uDFFF"`, `"\ude00\ude00"`, `"\ude00\ud83d"`, `"\udc00\udc00"`, `"\udfff\ud800"`, `"\ud83d\ude00\ude00"`, `"a\ude00"`, `"\u0041\ude00"`, `"\ude00\u0041"`, "\"\xed\xa0\xbd\\ude00\"",
		// Characters below 32, and bytes that are no characters.
		"\"\n\"", "\"\t\"", "\"a\x00\"", "\"\x1f\"", "\"a\rb\"", "\"\x0b", "\"\xff\"", "\"\x80\"", "\"a\xc0\x80\"", "\"\xc0\xa2\"", "\"\xed\xa0\xbd\xed\xb8\x80\"", "\"\xe2\x82\"", "\"\xc3\"", "\"\xf4\x90\x80\x80\"", "\"\xc3",
	} {
		checkRejects(t, s)
		if want, next, code := readQuoted(s, 0); want != "" || next != 0 || code != 1 {
			t.Errorf("the test reads %q as %q, %d, %d", s, want, next, code)
		}
	}
	for _, s := range noEncodings() {
		checkRejects(t, `"`+s+`"`)
		checkRejects(t, `"a`+s+`"`)
		checkRejects(t, `"\n`+s+`b"`)
	}
}

func TestReadQuotedOffsets(t *testing.T) {
	s := "\"a\" \"\\\"é\" \"\\ud83d\\ude00\"\xff\"z\""
	for at := -3; at <= len(s)+3; at++ {
		checkQuoted(t, s, at)
	}
	for _, at := range []int{math.MinInt, math.MinInt + 1, math.MaxInt, math.MaxInt - 1, math.MaxInt - 5, 1 << 32, -1 << 32} {
		for _, text := range []string{"", `"`, `""`, s} {
			if got, next, code := impl.ReadQuoted(text, at); got != "" || next != 0 || code != 1 {
				t.Errorf("ReadQuoted(%q, %d) = %q, %d, %d, want nothing, 0, 1", text, at, got, next, code)
			}
		}
	}
}

// TestEveryByteInQuotes checks each byte alone, behind a backslash, and as one of the digits.
func TestEveryByteInQuotes(t *testing.T) {
	for c := range 256 {
		one := string([]byte{byte(c)})
		for _, s := range []string{one, one + `"`, `"` + one, `"` + one + `"`, `"a` + one + `b"`, `"\` + one + `"`, `"\` + one, `"\` + one + `0041"`, `"\` + one + `\"`, `"\ud83d` + one + `ude00"`, `"\ud83d\` + one + `de00"`} {
			checkQuoted(t, s, 0)
		}
		for _, digits := range []string{"0041", "00e9", "D83D", "fFfF"} {
			for i := range 4 {
				changed := digits[:i] + one + digits[i+1:]
				checkQuoted(t, `"\u`+changed+`"`, 0)
				checkQuoted(t, `"\u`+changed+`\ude00"`, 0)
				checkQuoted(t, `"\ud83d\u`+changed+`"`, 0)
			}
		}
	}
}

func TestShortQuotedTexts(t *testing.T) {
	for _, s := range texts("\"\\/nua\n\xc3\xa9", 5) {
		checkQuoted(t, s, 0)
		checkQuoted(t, `"`+s, 0)
	}
	for _, s := range texts(`\u0d8"`, 6) {
		checkQuoted(t, `"`+s+`"`, 0)
	}
}

// TestSequencesOfEscapes checks all short sequences of parts, in which surrogates stand in every order.
func TestSequencesOfEscapes(t *testing.T) {
	parts := []string{`\ud800`, `\uDBFF`, `\udc00`, `\uDFFF`, `\ud7ff`, `\uE000`, `\u0041`, `\n`, `\\`, `\`, `a`, "\U0001f600", "\xed\xa0\x80", `u`}
	sequences := []string{""}
	for range 4 {
		longer := []string{}
		for _, s := range sequences {
			checkQuoted(t, `"`+s+`"`, 0)
			for _, p := range parts {
				longer = append(longer, s+p)
			}
		}
		sequences = longer
	}
}

func TestEveryNumberedEscape(t *testing.T) {
	for n := range 65536 {
		want, code := string(encodingOf(n)), 0
		if !isCharacter(n) {
			code = 1
		}
		for _, form := range []string{`"\u%04x"`, `"\u%04X"`} {
			quoted := fmt.Sprintf(form, n)
			next := len(quoted) * (1 - code)
			if got, after, c := impl.ReadQuoted(quoted, 0); got != want || after != next || c != code {
				t.Fatalf("ReadQuoted(%q, 0) = %q, %d, %d, want %q, %d, %d", quoted, got, after, c, want, next, code)
			}
		}
	}
}

// TestEveryPairOfSurrogates checks that each character beyond 65535 comes from its own pair.
func TestEveryPairOfSurrogates(t *testing.T) {
	want := 65536
	for high := 0xD800; high <= 0xDBFF; high++ {
		for low := 0xDC00; low <= 0xDFFF; low++ {
			quoted := `"\u` + strconv.FormatInt(int64(high), 16) + `\u` + strconv.FormatInt(int64(low), 16) + `"`
			if got, next, code := impl.ReadQuoted(quoted, 0); got != string(rune(want)) || next != 14 || code != 0 {
				t.Fatalf("ReadQuoted(%q, 0) = %q, %d, %d, want %q", quoted, got, next, code, rune(want))
			}
			want++
		}
	}
	if want != impl.MaxRune+1 {
		t.Errorf("the pairs end before %d", want)
	}
}

// TestOtherPairsOfNumbers checks each number before and behind a surrogate.
func TestOtherPairsOfNumbers(t *testing.T) {
	for n := range 65536 {
		high := n >= 0xD800 && n <= 0xDBFF
		low := n >= 0xDC00 && n <= 0xDFFF
		for _, c := range []struct {
			quoted string
			good   bool
		}{
			{fmt.Sprintf(`"\ud800\u%04x"`, n), low}, {fmt.Sprintf(`"\uDBFF\u%04X"`, n), low},
			{fmt.Sprintf(`"\u%04x\udc00"`, n), high}, {fmt.Sprintf(`"\u%04X\uDFFF"`, n), high},
			{fmt.Sprintf(`"\u%04x\u0041"`, n), !high && !low}, {fmt.Sprintf(`"\u0041\u%04x"`, n), !high && !low},
		} {
			got, next, code := impl.ReadQuoted(c.quoted, 0)
			if c.good != (code == 0) || c.good != (next == len(c.quoted)) || !c.good && (got != "" || next != 0 || code != 1) {
				t.Fatalf("ReadQuoted(%q, 0) = %q, %d, %d", c.quoted, got, next, code)
			}
		}
	}
}

func TestReadFour(t *testing.T) {
	for _, c := range []struct {
		s    string
		at   int
		want int
	}{
		{"00E9", 0, 233}, {"00e9", 0, 233}, {"0000", 0, 0}, {"000A", 0, 10}, {"ffff", 0, 65535}, {"FFFF", 0, 65535}, {"aBcD", 0, 0xABCD}, {"d83d", 0, 0xD83D}, {"DE00", 0, 0xDE00}, {"1234", 0, 0x1234}, {"9abc", 0, 0x9ABC},
		{"12345", 0, 0x1234}, {"12345", 1, 0x2345}, {`\u0041"`, 2, 65}, {"\xff00410", 1, 65}, {"é0041é", 2, 65},
	} {
		if got, ok := impl.ReadFour(c.s, c.at); got != c.want || !ok {
			t.Errorf("ReadFour(%q, %d) = %d, %t, want %d, true", c.s, c.at, got, ok, c.want)
		}
	}
	for n := range 65536 {
		for _, form := range []string{"%04x", "%04X", "x%04xx", "0%04X0"} {
			s := fmt.Sprintf(form, n)
			if got, ok := impl.ReadFour(s, len(s)/2-2); got != n || !ok {
				t.Fatalf("ReadFour(%q, %d) = %d, %t, want %d, true", s, len(s)/2-2, got, ok, n)
			}
		}
	}
}

func TestReadFourRejects(t *testing.T) {
	for _, s := range []string{
		"", "0", "00", "000", "g000", "0g00", "00g0", "000g", "G000", "000G", "+041", "-041", " 041", "041 ", "0x41", "0X41", "0o11", "_041", "0_41", "041_", "4_1_", "0.41", "1e+2", "٠٠", "ａ0", "éé", "00\xff0", "\x00\x00\x00\x00", "\x10\x11\x12\x13", "\n041", "041\n", "041\"", "\"041", `\041`, "00:0", "00/0", "00@0", "00`0", "K00", "ſ00", "00é",
	} {
		if got, ok := impl.ReadFour(s, 0); got != 0 || ok {
			t.Errorf("ReadFour(%q, 0) = %d, %t, want 0, false", s, got, ok)
		}
	}
	for c := range 256 {
		one := string([]byte{byte(c)})
		digit := strings.Contains("0123456789abcdefABCDEF", one)
		for i := range 4 {
			s := "1f0B"[:i] + one + "1f0B"[i+1:]
			want := 0
			if digit {
				want = int(hexNumber(s))
			}
			if got, ok := impl.ReadFour(s, 0); got != want || ok != digit {
				t.Errorf("ReadFour(%q, 0) = %d, %t, want %d, %t", s, got, ok, want, digit)
			}
		}
	}
	for _, s := range []string{"", "0", "0041", "004100"} {
		for _, at := range []int{-1, -2, -4, -5, len(s) - 3, len(s) - 2, len(s) - 1, len(s), len(s) + 1, math.MaxInt, math.MaxInt - 3, math.MaxInt - 4, math.MinInt, math.MinInt + 1, math.MinInt + 3, 1 << 32, -1 << 32} {
			if got, ok := impl.ReadFour(s, at); got != 0 || ok {
				t.Errorf("ReadFour(%q, %d) = %d, %t, want 0, false", s, at, got, ok)
			}
		}
	}
}

func TestBare(t *testing.T) {
	for _, s := range []string{"", "a", "aé", "a b", "/", "'", "\x7f", "\u0080", "\u2028", "\ufffd", "\ufeff", "\U0001f600", "\U0010ffff", "null", "[1,2]", strings.Repeat("€", 5000)} {
		if !impl.Bare(s) {
			t.Errorf("Bare(%.40q) = false", s)
		}
	}
	for _, s := range []string{"a\n", "\n", "\t", "\x00", "\x1f", `"`, `\`, "/\\", `a"b`, `\n`, "é\r", "\b", "\f", "\xff", "a\x80", strings.Repeat("€", 5000) + "\n"} {
		if impl.Bare(s) {
			t.Errorf("Bare(%.40q) = true", s)
		}
	}
	for n := 0; n <= impl.MaxRune; n++ {
		if s := string(encodingOf(n)); s != "" && impl.Bare(s) != (escapeByDefinition(n) == s) {
			t.Fatalf("Bare(%q) = %t", s, impl.Bare(s))
		}
	}
	for _, s := range append(quotableTexts(), texts("a/\"\\\n", 5)...) {
		want := !slices.ContainsFunc([]byte(s), func(c byte) bool { return c < 32 || c == '"' || c == '\\' })
		if got := impl.Bare(s); got != want {
			t.Errorf("Bare(%.40q) = %t", s, got)
		}
	}
}

func TestCodeName(t *testing.T) {
	for n, want := range []string{"good", "form", "limit"} {
		if got := impl.CodeName(n); got != want {
			t.Errorf("CodeName(%d) = %q, want %q", n, got, want)
		}
	}
	for _, n := range []int{-1, -2, 3, 4, 100, math.MaxInt, math.MinInt, 1 << 32, 1<<32 + 1, -1 << 32, 256} {
		if got := impl.CodeName(n); got != "" {
			t.Errorf("CodeName(%d) = %q, want nothing", n, got)
		}
	}
}

// TestLongQuotedTexts checks that neither direction looks at the rest of a text again and again.
func TestLongQuotedTexts(t *testing.T) {
	s := strings.Repeat("a\n\"é\x01\U0001f600\\", 100000)
	quoted := impl.Quote(s)
	if got, next, code := impl.ReadQuoted(quoted, 0); got != s || next != len(quoted) || code != 0 {
		t.Errorf("a long text is read as %d bytes up to %d, %d", len(got), next, code)
	}
	pairs := `"` + strings.Repeat(`\ud83d\ude00`, 100000)
	if got, next, code := impl.ReadQuoted(pairs+`"`, 0); got != strings.Repeat("\U0001f600", 100000) || next != len(pairs)+1 || code != 0 {
		t.Errorf("many pairs are read as %d bytes up to %d, %d", len(got), next, code)
	}
	for _, end := range []string{"", `\ud83d"`, `\ude00"`, `\`, "\xff\"", "\n\""} {
		if got, next, code := impl.ReadQuoted(pairs+end, 0); got != "" || next != 0 || code != 1 {
			t.Errorf("many pairs and %q are read as %d bytes up to %d, %d", end, len(got), next, code)
		}
	}
	// Many short strings in one long text.
	many := strings.Repeat(`"\t"`, 100000)
	for at := 0; at < len(many); {
		got, next, code := impl.ReadQuoted(many, at)
		if got != "\t" || next != at+4 || code != 0 {
			t.Fatalf("ReadQuoted at %d = %q, %d, %d", at, got, next, code)
		}
		at = next
	}
}
