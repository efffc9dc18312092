package tests

import (
	"encoding/json"
	"fmt"
	"math"
	"math/rand"
	"regexp"
	"slices"
	"strconv"
	"strings"
	"testing"

	"loop.example/g00502/impl"
)

func signOf(s string) impl.Token {
	return impl.Token{Kind: 1, S: s}
}

func stringOf(s string) impl.Token {
	return impl.Token{Kind: 2, S: s}
}

func numberOf(n, x int) impl.Token {
	return impl.Token{Kind: 3, N: n, X: x}
}

func wordOf(s string) impl.Token {
	return impl.Token{Kind: 4, S: s}
}

var (
	spaceForm       = regexp.MustCompile("^[\t\n\r ]*")
	signForm        = regexp.MustCompile(`^[{}\[\]:,]`)
	numberStartForm = regexp.MustCompile(`^[-0-9]`)
	wordForm        = regexp.MustCompile(`^(null|true|false)`)
)

// readToken restates ReadToken with regular expressions.
func readToken(s string, at int) (impl.Token, int, int) {
	if at < 0 || at > len(s) {
		return impl.Token{}, 0, 1
	}
	at += len(spaceForm.FindString(s[at:]))
	rest := s[at:]
	if rest == "" {
		return impl.Token{}, len(s), 0
	}
	if sign := signForm.FindString(rest); sign != "" {
		return signOf(sign), at + 1, 0
	}
	if word := wordForm.FindString(rest); word != "" {
		return wordOf(word), at + len(word), 0
	}
	if rest[0] == '"' {
		if text, next, code := readQuoted(s, at); code == 0 {
			return stringOf(text), next, 0
		}
		return impl.Token{}, 0, 1
	}
	if numberStartForm.MatchString(rest) {
		n, x, next, code := readNumber(s, at)
		if code == 0 {
			return numberOf(n, x), next, 0
		}
		return impl.Token{}, 0, code
	}
	return impl.Token{}, 0, 1
}

// tokensIn restates Tokens.
func tokensIn(s string) ([]impl.Token, int) {
	l := []impl.Token{}
	for at := 0; ; {
		k, next, code := readToken(s, at)
		if code != 0 {
			return nil, code
		}
		if k == (impl.Token{}) {
			return l, 0
		}
		l = append(l, k)
		at = next
	}
}

// checkToken holds promise 10 for one text and offset: the token there, and only that one, is read.
func checkToken(t *testing.T, s string, at int) {
	t.Helper()
	want, wantNext, wantCode := readToken(s, at)
	if got, next, code := impl.ReadToken(s, at); got != want || next != wantNext || code != wantCode {
		t.Errorf("ReadToken(%.80q, %d) = %v, %d, %d, want %v, %d, %d", s, at, got, next, code, want, wantNext, wantCode)
	}
}

// checkTokens holds promise 10 for all tokens of a text.
func checkTokens(t *testing.T, s string) {
	t.Helper()
	want, wantCode := tokensIn(s)
	if got, code := impl.Tokens(s); !slices.Equal(got, want) || code != wantCode {
		t.Errorf("Tokens(%.80q) = %v, %d, want %v, %d", s, got, code, want, wantCode)
	}
}

// checkReadsToken checks that the first part of a text is read as its token, wherever the text stands and with spaces or without.
func checkReadsToken(t *testing.T, s string, long int, want impl.Token) {
	t.Helper()
	for _, before := range []string{"", `"`, "nul", "-", "\xff", "1e1000", "é"} {
		for _, space := range []string{"", " ", "\t\n\r ", "      ", "\r\n"} {
			at := len(before)
			got, next, code := impl.ReadToken(before+space+s, at)
			if got != want || next != at+len(space)+long || code != 0 {
				t.Errorf("ReadToken(%q, %d) = %v, %d, %d, want %v, %d, 0", before+space+s, at, got, next, code, want, at+len(space)+long)
			}
		}
	}
	if got, next, code := readToken(s, 0); got != want || next != long || code != 0 {
		t.Errorf("the test reads %q as %v, %d, %d", s, got, next, code)
	}
}

// checkRejectsToken checks that a text begins with no token and gives the code, wherever it stands and with spaces or without.
func checkRejectsToken(t *testing.T, s string, want int) {
	t.Helper()
	for _, before := range []string{"", `"`, "nul", "-", "\xff", "1e1000", "true"} {
		for _, space := range []string{"", " ", "\t\n\r ", "\r\n"} {
			got, next, code := impl.ReadToken(before+space+s, len(before))
			if got != (impl.Token{}) || next != 0 || code != want {
				t.Errorf("ReadToken(%q, %d) = %v, %d, %d, want the zero Token, 0, %d", before+space+s, len(before), got, next, code, want)
			}
		}
	}
	if got, next, code := readToken(s, 0); got != (impl.Token{}) || next != 0 || code != want {
		t.Errorf("the test reads %q as %v, %d, %d", s, got, next, code)
	}
	for _, whole := range []string{s, " " + s, "[1,\n" + s, "true" + " " + s, `"a"` + s} {
		if l, code := impl.Tokens(whole); len(l) != 0 || code != want {
			t.Errorf("Tokens(%q) = %v, %d, want none, %d", whole, l, code, want)
		}
	}
}

func TestTokenConstants(t *testing.T) {
	if impl.TkEnd != 0 || impl.TkSign != 1 || impl.TkText != 2 || impl.TkNumber != 3 || impl.TkWord != 4 {
		t.Error("a constant of chapter 10 has another value")
	}
	// Untyped constants go with every number.
	var small int8 = impl.TkWord
	if small != 4 {
		t.Errorf("TkWord = %d", small)
	}
}

func TestSkip(t *testing.T) {
	for _, c := range []struct {
		s        string
		at, want int
	}{
		{"", 0, 0}, {"x", 0, 0}, {"x", 1, 1}, {" x", 0, 1}, {" x", 1, 1}, {" x", 2, 2}, {" \tx", 0, 2}, {"\t\n\r x", 0, 4}, {"\t\n\r x", 2, 4}, {"\t\n\r x", 4, 4}, {"x  y", 0, 0}, {"x  y", 1, 3}, {"x  y", 2, 3}, {"  ", 0, 2}, {"  ", 1, 2}, {"  ", 2, 2}, {" x ", 2, 3}, {"\n\n\n", 0, 3}, {"\r\n[", 0, 2},
		// Other spaces are none.
		{"\x0b", 0, 0}, {"\x0c", 0, 0}, {"\x00 ", 0, 0}, {" \x0b ", 0, 1}, {" \x0c", 0, 1}, {"\u00a0", 0, 0}, {" \u0085", 0, 1}, {" \u2028", 0, 1}, {" \u3000 ", 0, 1}, {" \ufeff", 0, 1}, {"\xa0 ", 0, 0}, {" \x85", 0, 1}, {"\x1f ", 0, 0}, {" \\t", 0, 1},
	} {
		if got := impl.Skip(c.s, c.at); got != c.want {
			t.Errorf("Skip(%q, %d) = %d, want %d", c.s, c.at, got, c.want)
		}
	}
	for c := range 256 {
		one := string([]byte{byte(c)})
		want := 0
		if c == 9 || c == 10 || c == 13 || c == 32 {
			want = 1
		}
		for _, s := range []string{one, one + "x", one + "\x00 "} {
			if got := impl.Skip(s, 0); got != want {
				t.Errorf("Skip(%q, 0) = %d, want %d", s, got, want)
			}
		}
		if got := impl.Skip(" "+one+" x", 0); got != 1+2*want {
			t.Errorf("Skip(%q, 0) = %d, want %d", " "+one+" x", got, 1+2*want)
		}
	}
	for _, s := range texts(" \t\n\rx", 5) {
		for at := range len(s) + 1 {
			want := at
			for want < len(s) && s[want] != 'x' {
				want++
			}
			if got := impl.Skip(s, at); got != want {
				t.Errorf("Skip(%q, %d) = %d, want %d", s, at, got, want)
			}
		}
	}
}

func TestSkipOffsets(t *testing.T) {
	for _, s := range []string{"", " ", "x", "    ", " x ", "x x"} {
		for _, at := range append(farOffsets(), -4, -1, len(s), len(s)+1, len(s)+2) {
			if got := impl.Skip(s, at); got != at {
				t.Errorf("Skip(%q, %d) = %d", s, at, got)
			}
		}
	}
}

func TestReadSigns(t *testing.T) {
	for _, sign := range []string{"{", "}", "[", "]", ":", ","} {
		for _, after := range []string{"", " ", sign, "{", "]", ",", "1", "x", "\x00", "\xff", `"`, "null", "\ufeff", ";"} {
			checkReadsToken(t, sign+after, 1, signOf(sign))
		}
	}
}

func TestReadStrings(t *testing.T) {
	for _, c := range [][2]string{
		{`""`, ""}, {`"a"`, "a"}, {`" a "`, " a "}, {`"aé€"`, "aé€"}, {`"\""`, `"`}, {`"\\"`, `\`}, {`"\n\u0041\/"`, "\nA/"}, {`"\ud83d\ude00"`, "\U0001f600"}, {`"null"`, "null"}, {`"1e1000"`, "1e1000"}, {`"[1,2]"`, "[1,2]"}, {`"\u0000"`, "\x00"}, {`"'"`, "'"}, {`"\"\""`, `""`}, {"\"\x7f\ufffd\"", "\x7f\ufffd"},
	} {
		for _, after := range []string{"", " ", `"`, `""`, "\"a\"", "a", "1", "\\", "\x00", "\xff", "null", ":", "é"} {
			checkReadsToken(t, c[0]+after, len(c[0]), stringOf(c[1]))
		}
	}
	for _, s := range quotableTexts() {
		quoted := impl.Quote(s)
		if got, next, code := impl.ReadToken("\n"+quoted+"]", 0); got != stringOf(s) || next != len(quoted)+1 || code != 0 {
			t.Errorf("ReadToken of %.40q = %v, %d, %d", quoted, got, next, code)
		}
	}
}

func TestReadNumbers(t *testing.T) {
	for _, c := range []struct {
		s    string
		n, x int
	}{
		{"0", 0, 0}, {"-0", 0, 0}, {"1", 1, 0}, {"9", 9, 0}, {"-7", -7, 0}, {"120", 120, 0}, {"1.5", 15, -1}, {"-1.5", -15, -1}, {"1.50", 150, -2}, {"-1.50e+2", -150, 0}, {"0.05", 5, -2}, {"0.00", 0, -2}, {"-0.0", 0, -1}, {"1e2", 1, 2}, {"1E2", 1, 2}, {"2.50E-3", 250, -5}, {"0e7", 0, 7}, {"1e999", 1, 999}, {"-1e-999", -1, -999}, {"1e001", 1, 1}, {"1.5e-999", 15, -1000}, {"12345678901234567", 12345678901234567, 0}, {"-99999999999999999", -99999999999999999, 0}, {"0.00000000000000000012345678901234567", 12345678901234567, -35},
	} {
		for _, after := range []string{"", " ", ",", "]", "-", "-1", `"a"`, "x", "\xff", "\x00", "null", "true", "/", "٣"} {
			checkReadsToken(t, c.s+after, len(c.s), numberOf(c.n, c.x))
		}
	}
	// What follows the longest number stays, also if it looks like more of it.
	for _, c := range []struct {
		s    string
		long int
		n, x int
	}{
		{"01", 1, 0, 0}, {"-01", 2, 0, 0}, {"00.5", 1, 0, 0}, {"1-2", 1, 1, 0}, {"1+2", 1, 1, 0}, {"1.5.5", 3, 15, -1}, {"1e2e3", 3, 1, 2}, {"1e2.5", 3, 1, 2}, {"0x10", 1, 0, 0}, {"1_000", 1, 1, 0}, {"1 .5", 1, 1, 0}, {"1 e5", 1, 1, 0}, {"0123456789012345678", 1, 0, 0},
	} {
		checkReadsToken(t, c.s, c.long, numberOf(c.n, c.x))
	}
	for _, d := range validDecs() {
		s := impl.DecText(d)
		// The text of a Dec has no exponent, and its digits are those of N.
		if got, next, code := impl.ReadToken(" "+s+" ", 0); got != numberOf(d.N, d.X) || next != len(s)+1 || code != 0 {
			t.Errorf("ReadToken of %q = %v, %d, %d", s, got, next, code)
		}
	}
}

func TestReadWords(t *testing.T) {
	for _, word := range []string{"null", "true", "false"} {
		for _, after := range []string{"", " ", "\n", ",", "]", "}", ":", "[", "{", `"`, `"a"`, "\x00", "\xff", ".", "(", "\u00a0", "\ufeff"} {
			checkReadsToken(t, word+after, len(word), wordOf(word))
		}
		for long := range len(word) {
			if long > 0 {
				checkRejectsToken(t, word[:long], 1)
			}
			for c := range 256 {
				changed := word[:long] + string([]byte{byte(c)}) + word[long+1:]
				checkToken(t, changed, 0)
				checkToken(t, word[:long]+string([]byte{byte(c)}), 0)
				checkToken(t, word[:long]+string([]byte{byte(c)})+word[long:], 0)
			}
		}
	}
	for _, s := range []string{
		"n", "nul", "nulL", "nul l", "nu ll", "n ull", "nil", "none", "Null", "NULL", "nUll", "ull", "nnull", "nlul", "nul\x00l", "nul\nl",
		"t", "tru", "truE", "True", "TRUE", "rue", "tre", "ttrue", "tr ue", "tru\xff", "treu",
		"f", "fals", "falsE", "False", "FALSE", "alse", "fale", "ffalse", "fal se", "flase",
		"tralse", "falue", "trull", "nrue", "nalse", "tull", "fulse", "undefined", "NaN", "Infinity", "yes", "no", "ｎull", "ñull", "nulł", "truе", "fаlse", "'null'",
	} {
		checkRejectsToken(t, s, 1)
	}
}

// TestWordsThatContinue checks words with anything behind them: the word ends with its last letter, and the next token begins there.
func TestWordsThatContinue(t *testing.T) {
	words := []string{"null", "true", "false"}
	for _, word := range words {
		for c := range 256 {
			one := string([]byte{byte(c)})
			checkReadsToken(t, word+one, len(word), wordOf(word))
			checkReadsToken(t, word+one+one, len(word), wordOf(word))
			checkTokens(t, word+one)
			checkTokens(t, one+word)
			checkTokens(t, "["+word+one+word+"]")
		}
		for _, after := range []string{"s", "x", "X", "_", "é", "able", "ed", "e", "l", "nul", "tru", "fals", "N", "-", "'", "$", "\\", "/", "\xff"} {
			if l, code := impl.Tokens(word + after); len(l) != 0 || code != 1 {
				t.Errorf("Tokens(%q) = %v, %d, want none, 1", word+after, l, code)
			}
		}
		for _, c := range []struct {
			after string
			want  impl.Token
		}{
			{"0", numberOf(0, 0)}, {"1", numberOf(1, 0)}, {"12", numberOf(12, 0)}, {"-1", numberOf(-1, 0)}, {"1.5", numberOf(15, -1)}, {`"a"`, stringOf("a")}, {"[", signOf("[")}, {":", signOf(":")}, {",", signOf(",")},
		} {
			want := []impl.Token{wordOf(word), c.want}
			if l, code := impl.Tokens(word + c.after); !slices.Equal(l, want) || code != 0 {
				t.Errorf("Tokens(%q) = %v, %d, want %v, 0", word+c.after, l, code, want)
			}
			want = []impl.Token{c.want, wordOf(word)}
			if l, code := impl.Tokens(c.after + word); !slices.Equal(l, want) || code != 0 {
				t.Errorf("Tokens(%q) = %v, %d, want %v, 0", c.after+word, l, code, want)
			}
		}
		for _, second := range words {
			checkReadsToken(t, word+second, len(word), wordOf(word))
			for _, third := range words {
				want := []impl.Token{wordOf(word), wordOf(second), wordOf(third)}
				if l, code := impl.Tokens(word + second + third); !slices.Equal(l, want) || code != 0 {
					t.Errorf("Tokens(%q) = %v, %d, want %v, 0", word+second+third, l, code, want)
				}
			}
		}
		// The number behind the word still counts as a number.
		if l, code := impl.Tokens(word + "1e1000"); len(l) != 0 || code != 2 {
			t.Errorf("Tokens(%q) = %v, %d, want none, 2", word+"1e1000", l, code)
		}
	}
}

func TestReadTokenRejects(t *testing.T) {
	for _, s := range []string{
		// Bytes that begin no token.
		"x", "a", "N", "T", "F", "e", "E5", "+", "+1", ".", ".5", "'", "'a'", "(", ")", "<", ";", "=", "/", "//", "/* */", "\\", `\"`, "`", "~", "_", "$", "#", "\x00", "\x01", "\x08", "\x0b", "\x0c", "\x0e", "\x1f", "\x7f", "\x80", "\xa0", "\xff", "\xfe", "\u00a0", "\u0085", "\u2028", "\ufeff", "é", "٣", "１", "−1", "\u201ca\u201d", "［", "｛", "，", "：", "\U0001f600",
		// Strings of a wrong form, also without an end.
		`"`, `"a`, `"a\"`, `"\x"`, `"\u12"`, `"\ud83d"`, `"\ude00"`, `"\`, "\"\n\"", "\"\x00\"", "\"\xff\"", "\"\xed\xa0\xbd\"", `"\u004g"`, "\"a\tb\"",
		// Numbers of a wrong form.
		"-", "- 1", "--1", "-+1", "-x", "-.5", "-e5", "-null", "-Infinity", "1.", "0.", "-0.", "1.e5", "1. 5", "1.x", "1..5", "1e", "1E", "1e+", "1e-", "1.5e", "1e x", "1ee5", "1e+-5", "0e", "1e.5", "1.null", "1etrue", "123456789012345678.", "123456789012345678e", "1.23456789012345678e-",
	} {
		checkRejectsToken(t, s, 1)
	}
	for _, s := range noEncodings() {
		checkRejectsToken(t, s, 1)
		checkRejectsToken(t, `"`+s+`"`, 1)
	}
}

func TestReadTokenLimits(t *testing.T) {
	zeros := strings.Repeat("0", 500)
	for _, s := range []string{
		"1e1000", "-1e1000", "1E+1000", "1e-1000", "1e0001", "0e0000", "0e1234", "1.5e9999", "1e18446744073709551617", "1e" + zeros,
		"123456789012345678", "-123456789012345678", "100000000000000000", "1.00000000000000000", "0.123456789012345678", "9223372036854775807", "9223372036854775808", "18446744073709551617", "1" + zeros, "-1" + zeros, "1." + zeros, "123456789012345678e1234",
	} {
		for _, after := range []string{"", " ", ",", "]", "x", "\xff", `"`, "null", "-"} {
			checkRejectsToken(t, s+after, 2)
		}
	}
	// A value equal to the limit is accepted.
	for _, c := range []struct {
		s    string
		n, x int
	}{
		{"1e999", 1, 999}, {"99999999999999999e-999", 99999999999999999, -999}, {"-1.2345678901234567E+999", -12345678901234567, 983}, {"0." + zeros + "1", 1, -501}, {"0." + zeros, 0, -500},
	} {
		checkReadsToken(t, c.s, len(c.s), numberOf(c.n, c.x))
	}
}

func TestReadTheEnd(t *testing.T) {
	for _, s := range append(texts(" \t\n\r", 4), strings.Repeat(" ", 1000), strings.Repeat("\r\n\t", 1000)) {
		for _, before := range []string{"", "x", `"`, "\xff", "[1", "null"} {
			whole := before + s
			for at := len(before); at <= len(whole); at += 1 + len(s)/5 {
				if k, next, code := impl.ReadToken(whole, at); k != (impl.Token{}) || k.Kind != impl.TkEnd || next != len(whole) || code != 0 {
					t.Errorf("ReadToken(%.80q, %d) = %v, %d, %d, want the end, %d, 0", whole, at, k, next, code, len(whole))
				}
			}
		}
		if l, code := impl.Tokens(s); len(l) != 0 || code != 0 {
			t.Errorf("Tokens(%.80q) = %v, %d, want none, 0", s, l, code)
		}
		if l, code := impl.Tokens("[" + s + "]" + s); !slices.Equal(l, []impl.Token{signOf("["), signOf("]")}) || code != 0 {
			t.Errorf("Tokens(%.80q) = %v, %d, want two signs, 0", "["+s+"]"+s, l, code)
		}
	}
	// After the end comes the end again.
	for _, s := range []string{"", "  ", "[]", "null "} {
		if k, next, code := impl.ReadToken(s, len(s)); k != (impl.Token{}) || next != len(s) || code != 0 {
			t.Errorf("ReadToken(%q, %d) = %v, %d, %d", s, len(s), k, next, code)
		}
	}
}

func TestReadTokenOffsets(t *testing.T) {
	s := " [ -1.50e+2 ,true:\"\\\"é\" ] {\t}null1e1000 \xff\"z\" 01e5  "
	for at := -3; at <= len(s)+3; at++ {
		checkToken(t, s, at)
	}
	for _, text := range []string{"", " ", "[", "null", `"a"`, "1e1000", s} {
		for _, at := range append(farOffsets(), -1, -len(text), -len(text)-1, len(text)+1, len(text)+2, len(text)+3) {
			if at == 0 {
				continue
			}
			if k, next, code := impl.ReadToken(text, at); k != (impl.Token{}) || next != 0 || code != 1 {
				t.Errorf("ReadToken(%q, %d) = %v, %d, %d, want the zero Token, 0, 1", text, at, k, next, code)
			}
		}
	}
}

func TestEveryByteBeginsAToken(t *testing.T) {
	for c := range 256 {
		one := string([]byte{byte(c)})
		for _, s := range []string{one, one + one, one + " ", " " + one, one + "1", one + `"`, one + `a"`, one + "ull", one + "rue", one + "alse", one + "]", one + "\xbf", "1" + one, "1." + one, `"` + one + `"`, "]" + one} {
			checkToken(t, s, 0)
			checkToken(t, s, 1)
			checkTokens(t, s)
		}
	}
}

func TestShortTokenTexts(t *testing.T) {
	for _, set := range []string{"[,\"1 ", "{:-0.e", "\"\\n\t]", "}\n\r\x0b2", "1E+\xc3\xa9"} {
		for _, s := range texts(set, 5) {
			checkTokens(t, s)
			for at := -1; at <= len(s)+1; at++ {
				checkToken(t, s, at)
			}
		}
	}
}

// TestSequencesOfParts checks all short sequences of parts, in which whole tokens and broken ones stand in every order.
func TestSequencesOfParts(t *testing.T) {
	parts := []string{"null", "true", "false", "nul", "l", "[", ",", "1", "-0.5", "e5", "1e1000", `"a"`, `"`, " ", "\n", "x"}
	sequences := []string{""}
	for range 5 {
		longer := []string{}
		for _, s := range sequences {
			checkTokens(t, s)
			for _, p := range parts {
				longer = append(longer, s+p)
			}
		}
		sequences = longer
	}
}

func TestTokens(t *testing.T) {
	for _, c := range []struct {
		s    string
		want []impl.Token
	}{
		{"", nil}, {"  ", nil}, {"null", []impl.Token{wordOf("null")}}, {" -1.5 ", []impl.Token{numberOf(-15, -1)}}, {`"a"`, []impl.Token{stringOf("a")}}, {`""`, []impl.Token{stringOf("")}}, {"0", []impl.Token{numberOf(0, 0)}},
		{" [ -1.5 , true]\n", []impl.Token{signOf("["), numberOf(-15, -1), signOf(","), wordOf("true"), signOf("]")}},
		{`{"a":[1,{}],"b":"\n"}`, []impl.Token{signOf("{"), stringOf("a"), signOf(":"), signOf("["), numberOf(1, 0), signOf(","), signOf("{"), signOf("}"), signOf("]"), signOf(","), stringOf("b"), signOf(":"), stringOf("\n"), signOf("}")}},
		// The order of the tokens does not matter, and spaces between them are not required.
		{"]}:,[{", []impl.Token{signOf("]"), signOf("}"), signOf(":"), signOf(","), signOf("["), signOf("{")}},
		{",,", []impl.Token{signOf(","), signOf(",")}}, {"[[", []impl.Token{signOf("["), signOf("[")}}, {"01", []impl.Token{numberOf(0, 0), numberOf(1, 0)}}, {"1-2", []impl.Token{numberOf(1, 0), numberOf(-2, 0)}}, {"-0-0", []impl.Token{numberOf(0, 0), numberOf(0, 0)}}, {"1 2", []impl.Token{numberOf(1, 0), numberOf(2, 0)}}, {`"a""b"`, []impl.Token{stringOf("a"), stringOf("b")}}, {`""""`, []impl.Token{stringOf(""), stringOf("")}}, {`1"a"null`, []impl.Token{numberOf(1, 0), stringOf("a"), wordOf("null")}},
		{"true false null", []impl.Token{wordOf("true"), wordOf("false"), wordOf("null")}}, {"truefalse", []impl.Token{wordOf("true"), wordOf("false")}}, {"null0", []impl.Token{wordOf("null"), numberOf(0, 0)}}, {"1true", []impl.Token{numberOf(1, 0), wordOf("true")}}, {"1e5false", []impl.Token{numberOf(1, 5), wordOf("false")}},
		{"\t1\n,\r2 ", []impl.Token{numberOf(1, 0), signOf(","), numberOf(2, 0)}},
	} {
		if got, code := impl.Tokens(c.s); !slices.Equal(got, c.want) || code != 0 {
			t.Errorf("Tokens(%q) = %v, %d, want %v, 0", c.s, got, code, c.want)
		}
	}
}

// TestTokensFirstCode checks that the code is that of the first token that cannot be read.
func TestTokensFirstCode(t *testing.T) {
	for _, c := range []struct {
		s    string
		code int
	}{
		{"nul", 1}, {"x", 1}, {"[1,x]", 1}, {"[1,2", 0}, {"]]", 0}, {"[1,2]x", 1}, {"1 2 3 .", 1}, {`{"a`, 1}, {"1.", 1}, {"[1.]", 1}, {"-", 1}, {"\x00", 1}, {"null\x00", 1}, {"[]\xff", 1}, {"\ufeff[]", 1}, {"[] \u00a0", 1}, {"[1;2]", 1}, {`["a" 'b']`, 1},
		{"1e1000", 2}, {" [ 1e1000 ] ", 2}, {"[1,123456789012345678]", 2}, {"[1, 2, 1e-1000", 2}, {`"a":1e1000`, 2},
		{"x 1e1000", 1}, {"1e1000 x", 2}, {"1e1000x", 2}, {"1. 1e1000", 1}, {"1e1000 1.", 2}, {`"\x" 1e1000`, 1}, {`1e1000 "`, 2}, {`" 1e1000`, 1}, {"nul 1e1000", 1}, {"1e1000 nul", 2}, {"nullx1e1000", 1}, {"null1e1000x", 2}, {"[1e1000.", 2}, {"1e1000.5", 2},
	} {
		l, code := impl.Tokens(c.s)
		if code != c.code || code != 0 && len(l) != 0 {
			t.Errorf("Tokens(%q) = %v, %d, want the code %d", c.s, l, code, c.code)
		}
		checkTokens(t, c.s)
	}
}

// textOfToken restates TokenText.
func textOfToken(k impl.Token) string {
	switch {
	case k.Kind == 1, k.Kind == 4:
		return k.S
	case k.Kind == 2:
		return impl.Quote(k.S)
	case k.Kind == 3 && k.X == 0:
		return strconv.Itoa(k.N)
	case k.Kind == 3:
		return fmt.Sprintf("%de%d", k.N, k.X)
	}
	return ""
}

func TestTokenText(t *testing.T) {
	for _, c := range []struct {
		k    impl.Token
		want string
	}{
		{signOf("{"), "{"}, {signOf("]"), "]"}, {signOf(","), ","}, {wordOf("null"), "null"}, {wordOf("false"), "false"},
		{stringOf(""), `""`}, {stringOf("a"), `"a"`}, {stringOf("a\"\n\\é\x01"), `"a\"\n\\é\u0001"`}, {stringOf("null"), `"null"`}, {stringOf("["), `"["`}, {stringOf("\xff"), ""}, {stringOf("a\xed\xa0\x80"), ""},
		{numberOf(0, 0), "0"}, {numberOf(-15, 0), "-15"}, {numberOf(-15, -1), "-15e-1"}, {numberOf(15, 2), "15e2"}, {numberOf(0, 7), "0e7"}, {numberOf(0, -2), "0e-2"}, {numberOf(150, -2), "150e-2"}, {numberOf(1, 999), "1e999"}, {numberOf(15, -1000), "15e-1000"}, {numberOf(99999999999999999, -999), "99999999999999999e-999"},
		// Numbers beyond the limits, and fields that the kind does not use.
		{numberOf(math.MinInt, math.MinInt), "-9223372036854775808e-9223372036854775808"}, {numberOf(math.MaxInt, math.MaxInt), "9223372036854775807e9223372036854775807"}, {numberOf(math.MinInt, 0), "-9223372036854775808"},
		{impl.Token{Kind: 1, S: "[", N: 5, X: 6}, "["}, {impl.Token{Kind: 2, S: "a", N: 5, X: 6}, `"a"`}, {impl.Token{Kind: 3, S: "a", N: 5, X: 6}, "5e6"}, {impl.Token{Kind: 4, S: "true", N: 5, X: 6}, "true"},
		// S of a sign or word is taken as it is.
		{signOf(""), ""}, {signOf("[]"), "[]"}, {signOf("x\xff"), "x\xff"}, {wordOf("nul"), "nul"}, {wordOf("a\n"), "a\n"}, {wordOf(""), ""},
	} {
		if got := impl.TokenText(c.k); got != c.want {
			t.Errorf("TokenText(%v) = %q, want %q", c.k, got, c.want)
		}
	}
	for _, kind := range []int{0, 5, 6, -1, -2, -4, 7, 100, 256, 257, 1<<32 + 1, -1<<32 + 2, math.MaxInt, math.MinInt} {
		for _, k := range []impl.Token{{Kind: kind}, {Kind: kind, S: "["}, {Kind: kind, S: "null"}, {Kind: kind, S: "a", N: 1, X: 2}, {Kind: kind, N: -1}} {
			if got := impl.TokenText(k); got != "" {
				t.Errorf("TokenText(%v) = %q, want nothing", k, got)
			}
		}
	}
	for kind := -2; kind <= 6; kind++ {
		for _, n := range edgeInts() {
			for _, k := range []impl.Token{{Kind: kind, N: n}, {Kind: kind, S: "a", N: n, X: 1}, {Kind: kind, N: -1, X: n}} {
				if got := impl.TokenText(k); got != textOfToken(k) {
					t.Errorf("TokenText(%v) = %q, want %q", k, got, textOfToken(k))
				}
			}
		}
	}
}

func TestJoinTokens(t *testing.T) {
	for _, c := range []struct {
		l    []impl.Token
		want string
	}{
		{nil, ""}, {[]impl.Token{}, ""}, {[]impl.Token{numberOf(-15, -1)}, "-15e-1"}, {[]impl.Token{signOf("["), signOf("]")}, "[ ]"},
		{[]impl.Token{signOf("["), numberOf(-15, -1), signOf(","), wordOf("true"), signOf("]")}, "[ -15e-1 , true ]"},
		{[]impl.Token{stringOf(""), stringOf(" "), stringOf("a b")}, `"" " " "a b"`},
		// A token without a text still has its place between the spaces.
		{[]impl.Token{{}}, ""}, {[]impl.Token{{}, {}}, " "}, {[]impl.Token{{}, numberOf(1, 0), {}}, " 1 "}, {[]impl.Token{numberOf(1, 0), {Kind: 9, S: "x"}, numberOf(2, 0)}, "1  2"}, {[]impl.Token{stringOf("\xff"), wordOf("null")}, " null"}, {[]impl.Token{signOf(""), signOf("")}, " "},
	} {
		if got := impl.JoinTokens(c.l); got != c.want {
			t.Errorf("JoinTokens(%v) = %q, want %q", c.l, got, c.want)
		}
	}
}

// someTokens are tokens of every kind whose text is read as the same token.
func someTokens() []impl.Token {
	l := []impl.Token{signOf("{"), signOf("}"), signOf("["), signOf("]"), signOf(":"), signOf(","), wordOf("null"), wordOf("true"), wordOf("false")}
	for _, s := range quotableTexts() {
		l = append(l, stringOf(s))
	}
	for _, n := range edgeInts() {
		if digitCount(n) <= 17 {
			for _, x := range []int{0, 1, -1, 16, -16, 17, -17, 40, -41, 999, -999} {
				l = append(l, numberOf(n, x))
			}
		}
	}
	return l
}

// TestTokenTextIsRead holds promise 10 for what TokenText writes.
func TestTokenTextIsRead(t *testing.T) {
	seen := map[string]impl.Token{}
	for _, k := range someTokens() {
		s := impl.TokenText(k)
		if other, ok := seen[s]; ok && other != k {
			t.Errorf("%v and %v are both %.80q", k, other, s)
		}
		seen[s] = k
		for _, whole := range []string{s, s + " ", s + ",", s + "\x00"} {
			if got, next, code := impl.ReadToken(whole, 0); got != k || next != len(s) || code != 0 {
				t.Errorf("ReadToken(%.80q, 0) = %v, %d, %d, want %v, %d, 0", whole, got, next, code, k, len(s))
			}
		}
		if l, code := impl.Tokens(s); !slices.Equal(l, []impl.Token{k}) || code != 0 {
			t.Errorf("Tokens(%.80q) = %v, %d, want %v", s, l, code, k)
		}
	}
}

// TestJoinedTokensAreRead checks that tokens in any order are read back, whatever spaces stand between them.
func TestJoinedTokensAreRead(t *testing.T) {
	random := rand.New(rand.NewSource(10))
	some := someTokens()
	spaces := []string{" ", "\n", "\t", "\r", "\r\n", "  ", " \t\r\n "}
	for range 3000 {
		l := []impl.Token{}
		loose := ""
		for range random.Intn(12) {
			k := some[random.Intn(len(some))]
			l = append(l, k)
			loose += spaces[random.Intn(len(spaces))] + textOfToken(k)
		}
		joined := impl.JoinTokens(l)
		for _, s := range []string{joined, loose, loose + "\n"} {
			if got, code := impl.Tokens(s); !slices.Equal(got, l) || code != 0 {
				t.Errorf("Tokens(%.80q) = %v, %d, want %v", s, got, code, l)
			}
		}
		checkTokens(t, strings.ReplaceAll(joined, " ", ""))
		if len(joined) > 0 {
			checkTokens(t, joined[:random.Intn(len(joined))])
		}
	}
}

// TestTokensOfLibraryTexts checks that the tokens of what the library writes mean the same to the library.
func TestTokensOfLibraryTexts(t *testing.T) {
	for _, v := range []any{
		nil, true, false, 0, -1.5, 1e15, 1e-7, 1e21, "", "a\"b\\\n\u2028<&>é\U0001f600", []any{}, map[string]any{}, []any{[]any{}, []any{nil}},
		map[string]any{"a": []any{1, 2.25, "x", nil, true, false}, "": map[string]any{"\x01": -0.001}, "null": "null", "[1,2]": []any{"]", "}"}},
	} {
		compact, err := json.Marshal(v)
		if err != nil {
			t.Fatal(err)
		}
		indented, err := json.MarshalIndent(v, "\r", "\t ")
		if err != nil {
			t.Fatal(err)
		}
		l, code := impl.Tokens(string(compact))
		other, otherCode := impl.Tokens(string(indented))
		if code != 0 || otherCode != 0 || !slices.Equal(l, other) {
			t.Errorf("the tokens of %s are %v, %d and %v, %d", compact, l, code, other, otherCode)
		}
		var want, got any
		if err := json.Unmarshal(compact, &want); err != nil {
			t.Fatal(err)
		}
		if err := json.Unmarshal([]byte(impl.JoinTokens(l)), &got); err != nil {
			t.Errorf("the library does not read %q: %v", impl.JoinTokens(l), err)
		}
		if fmt.Sprint(got) != fmt.Sprint(want) {
			t.Errorf("the library reads %q as %v, want %v", impl.JoinTokens(l), got, want)
		}
	}
}

func TestSignOk(t *testing.T) {
	for _, s := range []string{"{", "}", "[", "]", ":", ","} {
		if !impl.SignOk(s) {
			t.Errorf("SignOk(%q) = false", s)
		}
	}
	for _, s := range []string{"", " ", "[]", "{}", "[ ", " [", "{}[]:,", "}[", "]:", "::", ",\x00", "[[", "null", "(", ")", "<", ";", ".", "\"", "-", "0", "\x00", "\xff", "［", "｛", "，", "\\", "|", "Z", "z"} {
		if impl.SignOk(s) {
			t.Errorf("SignOk(%q) = true", s)
		}
	}
	for c := range 256 {
		one := string([]byte{byte(c)})
		if want := signForm.MatchString(one); impl.SignOk(one) != want {
			t.Errorf("SignOk(%q) = %t", one, !want)
		}
		for d := range 256 {
			if s := one + string([]byte{byte(d)}); impl.SignOk(s) {
				t.Errorf("SignOk(%q) = true", s)
			}
		}
	}
}

// TestTokensAreNew checks that results share no memory with each other, and that JoinTokens leaves its argument as it is.
func TestTokensAreNew(t *testing.T) {
	first, _ := impl.Tokens("[1,true]")
	second, _ := impl.Tokens("[1,true]")
	want := slices.Clone(second)
	for i := range first {
		first[i] = impl.Token{Kind: 7, S: "changed"}
	}
	_ = append(first, impl.Token{Kind: 8})
	if third, _ := impl.Tokens("[1,true]"); !slices.Equal(second, want) || !slices.Equal(third, want) {
		t.Errorf("changing a result changes other ones: %v, %v", second, third)
	}
	room := append(slices.Clone(want), impl.Token{Kind: 1, S: "behind"})
	if got := impl.JoinTokens(room[:5:6]); got != "[ 1 , true ]" {
		t.Errorf("JoinTokens = %q", got)
	}
	if !slices.Equal(room[:5], want) || room[5] != (impl.Token{Kind: 1, S: "behind"}) {
		t.Errorf("JoinTokens changes its argument: %v", room)
	}
}

// TestLongTokenTexts checks that no token depends on all of what stands before or behind it.
func TestLongTokenTexts(t *testing.T) {
	part := "[ -1.5,\"a\\n\"\t:null]\n"
	l, code := impl.Tokens(strings.Repeat(part, 50000))
	if code != 0 || len(l) != 50000*7 {
		t.Fatalf("a long text has %d tokens, %d", len(l), code)
	}
	want, _ := tokensIn(part)
	for i := range 50000 {
		if !slices.Equal(l[7*i:7*i+7], want) {
			t.Fatalf("the tokens from %d on are %v", 7*i, l[7*i:7*i+7])
		}
	}
	joined := impl.JoinTokens(l)
	if again, code := impl.Tokens(joined); code != 0 || !slices.Equal(again, l) {
		t.Errorf("the joined tokens are read as %d tokens, %d", len(again), code)
	}
	for _, c := range []struct {
		end  string
		code int
	}{{"x", 1}, {"1e1000", 2}, {`"`, 1}, {"nul", 1}, {"-", 1}} {
		if l, code := impl.Tokens(joined + " " + c.end); len(l) != 0 || code != c.code {
			t.Errorf("a long text that ends with %q has %d tokens, %d", c.end, len(l), code)
		}
	}
	spaces := strings.Repeat(" \r\n\t", 500000)
	if got := impl.Skip(spaces+"x", 0); got != len(spaces) {
		t.Errorf("Skip ends at %d", got)
	}
	if k, next, code := impl.ReadToken(spaces+"null", 1); k != wordOf("null") || next != len(spaces)+4 || code != 0 {
		t.Errorf("a word behind many spaces is %v, %d, %d", k, next, code)
	}
}
