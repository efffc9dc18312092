package tests

import (
	"bytes"
	"math"
	"slices"
	"strings"
	"testing"

	"loop.example/g00502/impl"
)

// isCharacter says in the document's own words which integers are characters.
func isCharacter(n int) bool {
	return n >= 0 && n <= 1114111 && !(n >= 55296 && n <= 57343)
}

// encodingOf writes a character with the document's formulas.
func encodingOf(n int) []byte {
	switch {
	case !isCharacter(n):
		return nil
	case n < 128:
		return []byte{byte(n)}
	case n < 2048:
		return []byte{byte(192 + n/64), byte(128 + n%64)}
	case n < 65536:
		return []byte{byte(224 + n/4096), byte(128 + n/64%64), byte(128 + n%64)}
	}
	return []byte{byte(240 + n/262144), byte(128 + n/4096%64), byte(128 + n/64%64), byte(128 + n%64)}
}

// allEncodings maps every encoding to its character.
func allEncodings() map[string]int {
	m := map[string]int{}
	for n := 0; n <= impl.MaxRune; n++ {
		if isCharacter(n) {
			m[string(encodingOf(n))] = n
		}
	}
	return m
}

// characterAt looks for an encoding at an offset by trying all widths.
func characterAt(encodings map[string]int, b []byte, at int) (int, int, bool) {
	for wide := 1; wide <= 4; wide++ {
		if at >= 0 && at <= len(b)-wide {
			if n, ok := encodings[string(b[at:at+wide])]; ok {
				return n, at + wide, true
			}
		}
	}
	return 0, 0, false
}

// nonCharacters are surrogates and integers outside of the range, some of which would be characters if their upper bits were dropped.
func nonCharacters() []int {
	return []int{
		-1, -2, -65, -128, -1114111, math.MinInt, math.MinInt + 65, math.MinInt32,
		55296, 55297, 56319, 56320, 57342, 57343,
		1114112, 1114113, 1114175, 2097151, 2097152, math.MaxInt32, 1 << 31, 1<<32 - 1, 1 << 32, 1<<32 + 65, 1<<32 + 8364, -1<<32 + 65, math.MaxInt,
	}
}

// edgeCharacters are the characters beside each limit.
func edgeCharacters() []int {
	return []int{
		0, 1, 9, 10, 31, 32, 34, 65, 92, 126, 127,
		128, 129, 191, 192, 233, 255, 256, 2046, 2047,
		2048, 2049, 4095, 4096, 8364, 55294, 55295, 57344, 57345, 65279, 65532, 65533, 65534, 65535,
		65536, 65537, 128512, 262143, 262144, 1048575, 1048576, 1114110, 1114111,
	}
}

func TestMaxRune(t *testing.T) {
	if impl.MaxRune != 0x10FFFF {
		t.Errorf("MaxRune = %d", impl.MaxRune)
	}
}

func TestRuneOk(t *testing.T) {
	for n := -70000; n <= impl.MaxRune+70000; n++ {
		if got := impl.RuneOk(n); got != isCharacter(n) {
			t.Fatalf("RuneOk(%d) = %t", n, got)
		}
	}
	for _, n := range edgeCharacters() {
		if !impl.RuneOk(n) {
			t.Errorf("RuneOk(%d) = false", n)
		}
	}
	for _, n := range nonCharacters() {
		if impl.RuneOk(n) {
			t.Errorf("RuneOk(%d) = true", n)
		}
	}
}

func TestPutRune(t *testing.T) {
	for _, c := range []struct {
		n    int
		want string
	}{
		{0, "\x00"}, {65, "A"}, {127, "\x7f"},
		{128, "\xc2\x80"}, {233, "\xc3\xa9"}, {2047, "\xdf\xbf"},
		{2048, "\xe0\xa0\x80"}, {8364, "\xe2\x82\xac"}, {55295, "\xed\x9f\xbf"}, {57344, "\xee\x80\x80"},
		{65279, "\xef\xbb\xbf"}, {65533, "\xef\xbf\xbd"}, {65534, "\xef\xbf\xbe"}, {65535, "\xef\xbf\xbf"},
		{65536, "\xf0\x90\x80\x80"}, {128512, "\xf0\x9f\x98\x80"}, {1114111, "\xf4\x8f\xbf\xbf"},
	} {
		for _, before := range []string{"", "x", "\xff\x00", "\xe2\x82", "aé€"} {
			if got := impl.PutRune([]byte(before), c.n); string(got) != before+c.want {
				t.Errorf("PutRune(%q, %d) = %q", before, c.n, got)
			}
		}
		if got := impl.PutRune(nil, c.n); string(got) != c.want {
			t.Errorf("PutRune(nil, %d) = %q", c.n, got)
		}
	}
}

func TestPutRuneOfNoCharacter(t *testing.T) {
	for _, n := range nonCharacters() {
		for _, before := range []string{"", "x", "\xff\x00", "aé€"} {
			if got := impl.PutRune([]byte(before), n); string(got) != before {
				t.Errorf("PutRune(%q, %d) = %q", before, n, got)
			}
		}
	}
}

func TestPutRuneSharesNoMemory(t *testing.T) {
	for _, n := range []int{65, 233, 8364, 128512, 55296, -1, 1114112} {
		whole := []byte("abcdefghij")
		b := whole[:3]
		first, second := impl.PutRune(b, n), impl.PutRune(b, n)
		for i := range first {
			first[i] = '!'
		}
		// The room behind a result may be used by its owner, too.
		_ = append(first[:len(first):cap(first)], "????"...)
		if string(whole) != "abcdefghij" {
			t.Errorf("PutRune(b, %d) shares memory with b: %q", n, whole)
		}
		if want := "abc" + string(encodingOf(n)); string(second) != want {
			t.Errorf("two results of PutRune(b, %d) share memory: %q", n, second)
		}
	}
}

// TestEveryCharacter holds promise 2 for all characters: what PutRune writes is read back, and its width is known.
func TestEveryCharacter(t *testing.T) {
	for n := 0; n <= impl.MaxRune; n++ {
		want := encodingOf(n)
		if got := impl.WideOf(n); got != len(want) {
			t.Fatalf("WideOf(%d) = %d, want %d", n, got, len(want))
		}
		b := impl.PutRune([]byte{'<'}, n)
		if string(b) != "<"+string(want) {
			t.Fatalf("PutRune(%d) = %q", n, b)
		}
		if !isCharacter(n) {
			continue
		}
		b = append(b, 0x80)
		if got, next, ok := impl.GetRune(b, 1); got != n || next != 1+len(want) || !ok {
			t.Fatalf("GetRune(%q, 1) = %d, %d, %t, want %d", b, got, next, ok, n)
		}
		s := string(want)
		if l := impl.RunesOf(s); !impl.TextOk(s) || len(l) != 1 || l[0] != n || impl.FromRunes(l) != s {
			t.Fatalf("RunesOf(%q) = %d, want %d", s, l, n)
		}
	}
}

func TestWideOf(t *testing.T) {
	for _, c := range []struct{ n, want int }{
		{0, 1}, {65, 1}, {127, 1}, {128, 2}, {2047, 2}, {2048, 3}, {55295, 3}, {57344, 3}, {65533, 3}, {65535, 3}, {65536, 4}, {1114111, 4},
	} {
		if got := impl.WideOf(c.n); got != c.want {
			t.Errorf("WideOf(%d) = %d, want %d", c.n, got, c.want)
		}
	}
	for _, n := range nonCharacters() {
		if got := impl.WideOf(n); got != 0 {
			t.Errorf("WideOf(%d) = %d, want 0", n, got)
		}
	}
}

// noEncodings are texts at whose start there is no character.
func noEncodings() []string {
	return []string{
		// Overlong encodings with two, three and four bytes, of 0, 47, 127, 128, 2047 and 65535.
		"\xc0\x80", "\xc0\xaf", "\xc1\xbf", "\xc1\x80",
		"\xe0\x80\x80", "\xe0\x80\xaf", "\xe0\x81\xbf", "\xe0\x82\x80", "\xe0\x9f\xbf",
		"\xf0\x80\x80\x80", "\xf0\x80\x80\xaf", "\xf0\x80\x81\xbf", "\xf0\x80\x9f\xbf", "\xf0\x8f\xbf\xbf",
		"\xf8\x80\x80\x80\x80", "\xfc\x80\x80\x80\x80\x80",
		// Surrogates, alone and as a pair.
		"\xed\xa0\x80", "\xed\xa0\x81", "\xed\xaf\xbf", "\xed\xb0\x80", "\xed\xbf\xbf", "\xed\xa0\x80\xed\xb0\x80",
		// Integers above MaxRune.
		"\xf4\x90\x80\x80", "\xf4\xbf\xbf\xbf", "\xf5\x80\x80\x80", "\xf7\xbf\xbf\xbf", "\xf8\x88\x80\x80\x80", "\xfb\xbf\xbf\xbf\xbf", "\xfc\x84\x80\x80\x80\x80", "\xfd\xbf\xbf\xbf\xbf\xbf",
		// Bytes that start nothing.
		"\x80", "\xbf", "\x80\x80", "\xfe", "\xff", "\xff\xff\xff\xff", "\xfe\x83\xbf\xbf\xbf\xbf\xbf",
		// Incomplete encodings at the end.
		"\xc2", "\xdf", "\xe0", "\xe0\xa0", "\xe2", "\xe2\x82", "\xef\xbf", "\xf0", "\xf0\x9f", "\xf0\x9f\x98", "\xf4", "\xf4\x8f", "\xf4\x8f\xbf",
		// Incomplete encodings before another byte.
		"\xc3a", "\xc3\xc3", "\xe2\x82a", "\xe2a\xac", "\xe2\x82\xc2\x80", "\xf0\x9f\x98a", "\xf0\x9fa\x80", "\xf0a\x98\x80", "\xef\xbf\xc0",
	}
}

func TestNoEncoding(t *testing.T) {
	for _, s := range noEncodings() {
		for _, before := range []string{"", "a", "é", "\ufffd", "\xff"} {
			b := []byte(before + s)
			if n, next, ok := impl.GetRune(b, len(before)); n != 0 || next != 0 || ok {
				t.Errorf("GetRune(%q, %d) = %d, %d, %t, want 0, 0, false", b, len(before), n, next, ok)
			}
			for _, after := range []string{"", "a", "€"} {
				text := before + s + after
				if impl.TextOk(text) {
					t.Errorf("TextOk(%q) = true", text)
				}
				if l := impl.RunesOf(text); len(l) != 0 {
					t.Errorf("RunesOf(%q) = %d", text, l)
				}
			}
		}
	}
}

func TestGetRuneOffsets(t *testing.T) {
	b := []byte("aé€\U0001f600\ufffdz")
	want := map[int][2]int{0: {97, 1}, 1: {233, 3}, 3: {8364, 6}, 6: {128512, 10}, 10: {65533, 13}, 13: {122, 14}}
	for at := -3; at <= len(b)+3; at++ {
		w, start := want[at]
		if n, next, ok := impl.GetRune(b, at); n != w[0] || next != w[1] || ok != start {
			t.Errorf("GetRune(%q, %d) = %d, %d, %t, want %d, %t", b, at, n, next, ok, w, start)
		}
	}
	for _, at := range []int{math.MinInt, math.MinInt + 1, math.MaxInt, math.MaxInt - 1, math.MaxInt - 3, 1 << 32, -1 << 32} {
		for _, l := range [][]byte{nil, {}, b} {
			if n, next, ok := impl.GetRune(l, at); n != 0 || next != 0 || ok {
				t.Errorf("GetRune(%q, %d) = %d, %d, %t, want 0, 0, false", l, at, n, next, ok)
			}
		}
	}
	for _, at := range []int{-1, 0, 1} {
		if n, next, ok := impl.GetRune(nil, at); n != 0 || next != 0 || ok {
			t.Errorf("GetRune(nil, %d) = %d, %d, %t, want 0, 0, false", at, n, next, ok)
		}
	}
}

func TestGetRuneReadsNoSpareCapacity(t *testing.T) {
	for _, n := range []int{233, 8364, 128512} {
		whole := encodingOf(n)
		for end := range whole {
			if got, next, ok := impl.GetRune(whole[:end], 0); got != 0 || next != 0 || ok {
				t.Errorf("GetRune(%q, 0) = %d, %d, %t, want 0, 0, false", whole[:end], got, next, ok)
			}
		}
	}
}

func TestGetRuneChangesNothing(t *testing.T) {
	b := []byte("\xc0\x80é\xff€")
	before := bytes.Clone(b)
	for at := range b {
		impl.GetRune(b, at)
	}
	if !bytes.Equal(b, before) {
		t.Errorf("GetRune changed its bytes to %q", b)
	}
}

// checkBytes holds promise 2 for some bytes: GetRune finds exactly the encodings, and a text consists of nothing else.
func checkBytes(t *testing.T, encodings map[string]int, b []byte) {
	t.Helper()
	for at := range b {
		n, next, ok := characterAt(encodings, b, at)
		if got, after, found := impl.GetRune(b, at); got != n || after != next || found != ok {
			t.Fatalf("GetRune(%q, %d) = %d, %d, %t, want %d, %d, %t", b, at, got, after, found, n, next, ok)
		}
	}
	want, complete := []int{}, true
	for at := 0; at < len(b) && complete; {
		n, next, ok := characterAt(encodings, b, at)
		want, at, complete = append(want, n), next, ok
	}
	if !complete {
		want = nil
	}
	s := string(b)
	if got := impl.TextOk(s); got != complete {
		t.Fatalf("TextOk(%q) = %t", s, got)
	}
	l := impl.RunesOf(s)
	if !slices.Equal(l, want) {
		t.Fatalf("RunesOf(%q) = %d, want %d", s, l, want)
	}
	if complete && impl.FromRunes(l) != s {
		t.Fatalf("FromRunes(%d) = %q, want %q", l, impl.FromRunes(l), s)
	}
}

func TestAllShortBytes(t *testing.T) {
	encodings := allEncodings()
	checkBytes(t, encodings, nil)
	for c := range 256 {
		checkBytes(t, encodings, []byte{byte(c)})
		for d := range 256 {
			checkBytes(t, encodings, []byte{byte(c), byte(d)})
		}
	}
	second := []byte{0x41, 0x7f, 0x80, 0x81, 0x8f, 0x90, 0x9f, 0xa0, 0xbf, 0xc0, 0xc2, 0xe0, 0xef, 0xff}
	for c := range 256 {
		for _, d := range second {
			for _, e := range second {
				checkBytes(t, encodings, []byte{byte(c), d, e})
				for _, f := range second {
					checkBytes(t, encodings, []byte{byte(c), d, e, f})
				}
			}
		}
	}
}

func TestTextOk(t *testing.T) {
	for _, s := range []string{
		"", "\x00", "a", "aé", "é", "€", "\U0001f600", "\ufffd", "\ufffd\ufffd", "a\ufffdb", "\ufeffa", "\ufffe", "\uffff", "\U0010ffff",
		"\u0301", "a\x00b", "\ud7ff\ue000", strings.Repeat("€", 5000),
	} {
		if !impl.TextOk(s) {
			t.Errorf("TextOk(%.40q) = false", s)
		}
	}
	long := strings.Repeat("\ufffd", 5000)
	for _, end := range []string{"\xff", "\x80", "\xef\xbf", "\xef", "\xed\xa0\x80"} {
		if impl.TextOk(long+end) || impl.TextOk(end+long) || impl.TextOk(long+end+long) {
			t.Errorf("TextOk accepts %q", end)
		}
	}
}

func TestRunesOf(t *testing.T) {
	for _, c := range []struct {
		s    string
		want []int
	}{
		{"", nil},
		{"a", []int{97}},
		{"aé", []int{97, 233}},
		{"\x00\x7f", []int{0, 127}},
		{"é€\U0001f600z", []int{233, 8364, 128512, 122}},
		{"e\u0301", []int{101, 769}},
		{"\ufffd", []int{65533}},
		{"\ufffda\ufffd", []int{65533, 97, 65533}},
		{"\ud7ff\ue000\U0010ffff", []int{55295, 57344, 1114111}},
		{"a\xff", nil}, {"\xffa", nil}, {"aé\xc0\x80", nil}, {"\ufffd\xff", nil}, {"\xed\xa0\xbd\xed\xb8\x80", nil},
	} {
		if got := impl.RunesOf(c.s); !slices.Equal(got, c.want) {
			t.Errorf("RunesOf(%q) = %d, want %d", c.s, got, c.want)
		}
	}
}

func TestRunesOfSharesNoMemory(t *testing.T) {
	first, second := impl.RunesOf("aé€"), impl.RunesOf("aé€")
	first[0], first[1] = 1, 2
	_ = append(first, 3, 4)
	if !slices.Equal(second, []int{97, 233, 8364}) || !slices.Equal(impl.RunesOf("aé€"), second) {
		t.Errorf("two results share memory: %d", second)
	}
}

func TestFromRunes(t *testing.T) {
	for _, c := range []struct {
		l    []int
		want string
	}{
		{nil, ""},
		{[]int{}, ""},
		{[]int{97, 233}, "aé"},
		{[]int{0, 0}, "\x00\x00"},
		{[]int{65533, 65533}, "\ufffd\ufffd"},
		{[]int{127, 128, 2047, 2048, 65535, 65536, 1114111}, "\x7f\u0080\u07ff\u0800\uffff\U00010000\U0010ffff"},
		{[]int{55295, 57344}, "\ud7ff\ue000"},
		// An element that is no character adds nothing.
		{[]int{55296}, ""},
		{[]int{55357, 56832}, ""},
		{[]int{-1, 97, 55296, 98, 57343, 1114112, 99, 1<<32 + 65}, "abc"},
	} {
		before := slices.Clone(c.l)
		if got := impl.FromRunes(c.l); got != c.want {
			t.Errorf("FromRunes(%d) = %q, want %q", before, got, c.want)
		}
		if !slices.Equal(c.l, before) {
			t.Errorf("FromRunes changed %d to %d", before, c.l)
		}
	}
	if got := impl.FromRunes(nonCharacters()); got != "" {
		t.Errorf("FromRunes(%d) = %q", nonCharacters(), got)
	}
}

// TestFromRunesIsPutRune checks that FromRunes concatenates PutRune of all elements, for characters and others.
func TestFromRunesIsPutRune(t *testing.T) {
	l := slices.Concat(edgeCharacters(), nonCharacters(), edgeCharacters())
	want := []byte{}
	for _, n := range l {
		want = impl.PutRune(want, n)
	}
	got := impl.FromRunes(l)
	if got != string(want) {
		t.Errorf("FromRunes = %q, want %q", got, want)
	}
	if back := impl.RunesOf(got); !slices.Equal(back, slices.Concat(edgeCharacters(), edgeCharacters())) {
		t.Errorf("RunesOf(%q) = %d", got, back)
	}
}
