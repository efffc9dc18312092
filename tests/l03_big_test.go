package tests

import (
	"bytes"
	"encoding/hex"
	"math"
	"math/big"
	"slices"
	"strings"
	"testing"

	"loop.example/g00502/impl"
)

// widths are the numbers of bytes that an integer may take.
var widths = []int{1, 2, 4, 8}

// otherWidths are numbers of bytes that no integer takes, some of which would be widths if their upper bits were dropped.
func otherWidths() []int {
	return []int{math.MinInt, -8, -4, -2, -1, 0, 3, 5, 6, 7, 9, 10, 15, 16, 32, 64, 256, 1<<32 + 4, 1<<62 + 1, math.MinInt + 8, math.MaxInt}
}

// bigEncoding writes n in w bytes with integers of any size; it returns nothing if n is negative or does not fit.
func bigEncoding(n int, w int) []byte {
	digits := big.NewInt(int64(n))
	if !slices.Contains(widths, w) || n < 0 || digits.BitLen() > 8*w {
		return nil
	}
	return digits.FillBytes(make([]byte, w))
}

// bigNumber reads all of b with integers of any size.
func bigNumber(b []byte) (int, bool) {
	n := new(big.Int).SetBytes(b)
	if n.Cmp(big.NewInt(1000000000000000)) > 0 {
		return 0, false
	}
	return int(n.Int64()), true
}

func TestPutBig(t *testing.T) {
	for _, c := range []struct {
		n, w int
		want string
	}{
		{0, 1, "\x00"}, {0, 2, "\x00\x00"}, {0, 4, "\x00\x00\x00\x00"}, {0, 8, "\x00\x00\x00\x00\x00\x00\x00\x00"},
		{1, 1, "\x01"}, {255, 1, "\xff"}, {255, 2, "\x00\xff"}, {255, 8, "\x00\x00\x00\x00\x00\x00\x00\xff"},
		{256, 2, "\x01\x00"}, {258, 2, "\x01\x02"}, {65535, 2, "\xff\xff"},
		{65536, 4, "\x00\x01\x00\x00"}, {16909060, 4, "\x01\x02\x03\x04"}, {2147483648, 4, "\x80\x00\x00\x00"}, {4294967295, 4, "\xff\xff\xff\xff"},
		{4294967295, 8, "\x00\x00\x00\x00\xff\xff\xff\xff"}, {4294967296, 8, "\x00\x00\x00\x01\x00\x00\x00\x00"},
		{72623859790382856, 8, "\x01\x02\x03\x04\x05\x06\x07\x08"},
		// Eight bytes take every nonnegative integer, also one above MaxInt.
		{1000000000000000, 8, "\x00\x03\x8d\x7e\xa4\xc6\x80\x00"}, {1000000000000001, 8, "\x00\x03\x8d\x7e\xa4\xc6\x80\x01"},
		{math.MaxInt - 1, 8, "\x7f\xff\xff\xff\xff\xff\xff\xfe"}, {math.MaxInt, 8, "\x7f\xff\xff\xff\xff\xff\xff\xff"},
		// Integers that do not fit.
		{256, 1, ""}, {257, 1, ""}, {65536, 1, ""}, {math.MaxInt, 1, ""},
		{65536, 2, ""}, {65537, 2, ""}, {math.MaxInt, 2, ""},
		{4294967296, 4, ""}, {4294967297, 4, ""}, {math.MaxInt, 4, ""},
		// Negative integers, among them those whose last bytes would fit.
		{-1, 1, ""}, {-1, 2, ""}, {-1, 4, ""}, {-1, 8, ""}, {-256, 1, ""}, {-255, 1, ""}, {-65535, 2, ""},
		{math.MinInt, 1, ""}, {math.MinInt, 2, ""}, {math.MinInt, 4, ""}, {math.MinInt, 8, ""}, {math.MinInt + 1, 8, ""},
	} {
		for _, before := range []string{"", "x", "\xff\x00", "aé€"} {
			if got := impl.PutBig([]byte(before), c.n, c.w); string(got) != before+c.want {
				t.Errorf("PutBig(%q, %d, %d) = %q, want %q", before, c.n, c.w, got, before+c.want)
			}
		}
		if got := impl.PutBig(nil, c.n, c.w); string(got) != c.want {
			t.Errorf("PutBig(nil, %d, %d) = %q, want %q", c.n, c.w, got, c.want)
		}
	}
}

func TestOtherWidths(t *testing.T) {
	b := []byte("\x00\x01\x02\x03\x04\x05\x06\x07\x08\x09\x0a\x0b\x0c\x0d\x0e\x0f\x10")
	for _, w := range otherWidths() {
		for _, n := range []int{0, 1, 255, impl.MaxInt, math.MaxInt, -1, math.MinInt} {
			if got := impl.PutBig([]byte("ab"), n, w); string(got) != "ab" {
				t.Errorf("PutBig(\"ab\", %d, %d) = %q", n, w, got)
			}
		}
		for _, at := range []int{0, 1, 16, 17, -1, -w, math.MaxInt, math.MinInt} {
			for _, l := range [][]byte{b, {0}, {}, nil} {
				if n, ok := impl.GetBig(l, at, w); n != 0 || ok {
					t.Errorf("GetBig(%q, %d, %d) = %d, %t, want 0, false", l, at, w, n, ok)
				}
			}
		}
	}
}

func TestPutBigSharesNoMemory(t *testing.T) {
	for _, c := range [][2]int{{7, 1}, {258, 2}, {258, 4}, {258, 8}, {258, 1}, {-1, 8}, {258, 3}, {258, 0}} {
		whole := []byte("abcdefghijklmnop")
		b := whole[:3]
		first, second := impl.PutBig(b, c[0], c[1]), impl.PutBig(b, c[0], c[1])
		for i := range first {
			first[i] = '!'
		}
		// The room behind a result may be used by its owner, too.
		_ = append(first[:len(first):cap(first)], "????????"...)
		if string(whole) != "abcdefghijklmnop" {
			t.Errorf("PutBig(b, %d, %d) shares memory with b: %q", c[0], c[1], whole)
		}
		if want := "abc" + string(bigEncoding(c[0], c[1])); string(second) != want {
			t.Errorf("two results of PutBig(b, %d, %d) share memory: %q", c[0], c[1], second)
		}
	}
}

// checkBig holds promise 3 for one integer and width: what PutBig writes is read back at its offset, unless it exceeds MaxInt.
func checkBig(t *testing.T, n, w int) {
	t.Helper()
	want := bigEncoding(n, w)
	b := impl.PutBig([]byte("\xff\x01"), n, w)
	if string(b) != "\xff\x01"+string(want) {
		t.Fatalf("PutBig(%d, %d) = %q, want %q", n, w, b, want)
	}
	if len(want) == 0 {
		return
	}
	b = append(b, 0xff)
	back, within := n, n <= 1000000000000000
	if !within {
		back = 0
	}
	if got, ok := impl.GetBig(b, 2, w); got != back || ok != within {
		t.Fatalf("GetBig(%q, 2, %d) = %d, %t, want %d, %t", b, w, got, ok, back, within)
	}
}

func TestIntegersAreReadBack(t *testing.T) {
	l := edgeInts()
	for n := 0; n <= 70000; n++ {
		l = append(l, n)
	}
	for n := math.MaxInt; n > 0; n -= n/97 + 1 {
		l = append(l, n)
	}
	for _, n := range l {
		for _, w := range widths {
			checkBig(t, n, w)
		}
	}
}

func TestGetBig(t *testing.T) {
	for _, c := range []struct {
		s    string
		w    int
		want int
	}{
		{"\x00", 1, 0}, {"\x7f", 1, 127}, {"\x80", 1, 128}, {"\xff", 1, 255},
		{"\x00\x00", 2, 0}, {"\x00\x01", 2, 1}, {"\x01\x00", 2, 256}, {"\x01\x02", 2, 258}, {"\x80\x00", 2, 32768}, {"\xff\xff", 2, 65535},
		{"\x00\x00\x00\x05", 4, 5}, {"\x01\x02\x03\x04", 4, 16909060}, {"\x80\x00\x00\x00", 4, 2147483648}, {"\xff\xff\xff\xff", 4, 4294967295},
		{"\x00\x00\x00\x00\x00\x00\x00\x00", 8, 0}, {"\x00\x00\x00\x00\x00\x00\x00\x07", 8, 7},
		{"\x00\x00\x00\x01\x00\x00\x00\x00", 8, 4294967296}, {"\x00\x01\x02\x03\x04\x05\x06\x07", 8, 283686952306183},
		{"\x00\x03\x8d\x7e\xa4\xc6\x7f\xff", 8, 999999999999999}, {"\x00\x03\x8d\x7e\xa4\xc6\x80\x00", 8, 1000000000000000},
	} {
		for _, before := range []string{"", "\x01", "\xff\xff\xff"} {
			b := []byte(before + c.s + "\xff")
			if n, ok := impl.GetBig(b, len(before), c.w); n != c.want || !ok {
				t.Errorf("GetBig(%q, %d, %d) = %d, %t, want %d, true", b, len(before), c.w, n, ok, c.want)
			}
		}
		if n, ok := impl.GetBig([]byte(c.s), 0, c.w); n != c.want || !ok {
			t.Errorf("GetBig(%q, 0, %d) = %d, %t, want %d, true", c.s, c.w, n, ok, c.want)
		}
	}
}

// TestTooLarge tries eight-byte integers above MaxInt: just above it, beyond an int, and with small last bytes.
func TestTooLarge(t *testing.T) {
	for _, s := range []string{
		"\x00\x03\x8d\x7e\xa4\xc6\x80\x01", "\x00\x03\x8d\x7e\xa4\xc6\x80\xff", "\x00\x03\x8d\x7e\xa4\xc6\x81\x00", "\x00\x03\x8d\x7e\xa4\xc7\x00\x00",
		"\x00\x04\x00\x00\x00\x00\x00\x00", "\x00\x04\x00\x00\x00\x00\x00\x07", "\x00\x10\x00\x00\x00\x00\x00\x00", "\x00\x20\x00\x00\x00\x00\x00\x01",
		"\x01\x00\x00\x00\x00\x00\x00\x00", "\x01\x00\x00\x00\x00\x00\x00\x01", "\x40\x00\x00\x00\x00\x00\x00\x00",
		"\x7f\xff\xff\xff\xff\xff\xff\xfe", "\x7f\xff\xff\xff\xff\xff\xff\xff",
		"\x80\x00\x00\x00\x00\x00\x00\x00", "\x80\x00\x00\x00\x00\x00\x00\x01", "\x80\x03\x8d\x7e\xa4\xc6\x80\x00",
		"\xff\xfc\x72\x81\x5b\x39\x80\x00", "\xff\xff\xff\xff\xff\xff\xff\x00", "\xff\xff\xff\xff\xff\xff\xff\xfe", "\xff\xff\xff\xff\xff\xff\xff\xff",
	} {
		for _, before := range []string{"", "\x00", "\x00\x00\x00\x00\x00\x00\x00\x00"} {
			b := []byte(before + s + "\x00")
			if n, ok := impl.GetBig(b, len(before), 8); n != 0 || ok {
				t.Errorf("GetBig(%q, %d, 8) = %d, %t, want 0, false", b, len(before), n, ok)
			}
		}
	}
}

// TestAllBytesAsIntegers holds promise 3 the other way: bytes are read as the integer whose encoding they are.
func TestAllBytesAsIntegers(t *testing.T) {
	check := func(b []byte) {
		t.Helper()
		want, within := bigNumber(b)
		n, ok := impl.GetBig(b, 0, len(b))
		if n != want || ok != within {
			t.Fatalf("GetBig(%q, 0, %d) = %d, %t, want %d, %t", b, len(b), n, ok, want, within)
		}
		if ok && !bytes.Equal(impl.PutBig(nil, n, len(b)), b) {
			t.Fatalf("PutBig(%d, %d) is not %q", n, len(b), b)
		}
	}
	for c := range 256 {
		check([]byte{byte(c)})
		for d := range 256 {
			check([]byte{byte(c), byte(d)})
		}
	}
	edges := []byte{0, 1, 127, 128, 255}
	for c := range 5 * 5 * 5 * 5 {
		b := []byte{edges[c/125], edges[c/25%5], edges[c/5%5], edges[c%5]}
		check(b)
		check(append([]byte{0, 0, 0, 0}, b...))
		check(append([]byte{0, 3, 141, 126}, b...))
		check(append(slices.Clone(b), 0, 0, 0, 7))
		check(append(slices.Clone(b), b...))
	}
	for d := 0; d <= 300; d++ {
		check(big.NewInt(int64(impl.MaxInt - 150 + d)).FillBytes(make([]byte, 8)))
	}
}

// farOffsets are offsets outside of every slice; the sum of some and a length exceeds an int.
func farOffsets() []int {
	return []int{math.MinInt, math.MinInt + 1, math.MinInt + 8, -1 << 32, -17, -2, 100, 1 << 32, math.MaxInt - 8, math.MaxInt - 2, math.MaxInt - 1, math.MaxInt}
}

func TestGetBigOffsets(t *testing.T) {
	b := []byte("\x00\x00\x01\x02\x03\x04\x05\x06\x07\x08\x09")
	for _, w := range widths {
		for end := 0; end <= len(b); end++ {
			for at := -9; at <= end+9; at++ {
				want, exists := 0, at >= 0 && at+w <= end
				if exists {
					want, exists = bigNumber(b[at : at+w])
				}
				// The bytes behind the slice exist in memory, but not in the slice.
				if n, ok := impl.GetBig(b[:end], at, w); n != want || ok != exists {
					t.Errorf("GetBig(%q, %d, %d) = %d, %t, want %d, %t", b[:end], at, w, n, ok, want, exists)
				}
			}
		}
		for _, at := range farOffsets() {
			for _, l := range [][]byte{nil, {}, b} {
				if n, ok := impl.GetBig(l, at, w); n != 0 || ok {
					t.Errorf("GetBig(%q, %d, %d) = %d, %t, want 0, false", l, at, w, n, ok)
				}
			}
		}
		if n, ok := impl.GetBig(nil, 0, w); n != 0 || ok {
			t.Errorf("GetBig(nil, 0, %d) = %d, %t, want 0, false", w, n, ok)
		}
	}
	if string(b) != "\x00\x00\x01\x02\x03\x04\x05\x06\x07\x08\x09" {
		t.Errorf("GetBig changed its bytes to %q", b)
	}
}

func TestWidthFor(t *testing.T) {
	for _, c := range []struct{ n, want int }{
		{0, 1}, {1, 1}, {127, 1}, {128, 1}, {255, 1},
		{256, 2}, {258, 2}, {32768, 2}, {65535, 2},
		{65536, 4}, {16777216, 4}, {2147483648, 4}, {4294967295, 4},
		{4294967296, 8}, {impl.MaxInt, 8}, {impl.MaxInt + 1, 8}, {math.MaxInt - 1, 8}, {math.MaxInt, 8},
		{-1, 0}, {-2, 0}, {-255, 0}, {-256, 0}, {-impl.MaxInt, 0}, {math.MinInt + 1, 0}, {math.MinInt, 0},
	} {
		if got := impl.WidthFor(c.n); got != c.want {
			t.Errorf("WidthFor(%d) = %d, want %d", c.n, got, c.want)
		}
	}
	for _, n := range edgeInts() {
		want := 0
		for _, w := range widths {
			if want == 0 && bigEncoding(n, w) != nil {
				want = w
			}
		}
		if got := impl.WidthFor(n); got != want {
			t.Errorf("WidthFor(%d) = %d, want %d", n, got, want)
		}
	}
}

func TestSlice(t *testing.T) {
	b := []byte("abcdefgh")
	for end := 0; end <= len(b); end++ {
		for at := -3; at <= end+3; at++ {
			for n := -3; n <= end+3; n++ {
				want, exist := "", at >= 0 && n >= 0 && at+n <= end
				if exist {
					want = string(b[at : at+n])
				}
				// The bytes behind the slice exist in memory, but not in the slice.
				if got, ok := impl.Slice(b[:end], at, n); string(got) != want || ok != exist {
					t.Errorf("Slice(%q, %d, %d) = %q, %t, want %q, %t", b[:end], at, n, got, ok, want, exist)
				}
			}
		}
	}
	if string(b) != "abcdefgh" {
		t.Errorf("Slice changed its bytes to %q", b)
	}
}

func TestSliceOfNothing(t *testing.T) {
	for _, l := range [][]byte{nil, {}} {
		if got, ok := impl.Slice(l, 0, 0); len(got) != 0 || !ok {
			t.Errorf("Slice(%q, 0, 0) = %q, %t", l, got, ok)
		}
		for _, c := range [][2]int{{0, 1}, {1, 0}, {-1, 0}, {-1, 1}, {0, -1}, {1, -1}} {
			if got, ok := impl.Slice(l, c[0], c[1]); len(got) != 0 || ok {
				t.Errorf("Slice(%q, %d, %d) = %q, %t, want nothing, false", l, c[0], c[1], got, ok)
			}
		}
	}
}

func TestSliceFarAway(t *testing.T) {
	b := []byte("abcdefgh")
	for _, far := range farOffsets() {
		for _, near := range []int{-1, 0, 1, 8} {
			for _, c := range [][2]int{{far, near}, {near, far}, {far, far}, {far, -far}, {far, math.MaxInt}, {math.MinInt, far}} {
				if got, ok := impl.Slice(b, c[0], c[1]); len(got) != 0 || ok {
					t.Errorf("Slice(%q, %d, %d) = %q, %t, want nothing, false", b, c[0], c[1], got, ok)
				}
			}
		}
	}
}

func TestSliceSharesNoMemory(t *testing.T) {
	b := []byte("abcdefgh")
	for _, c := range [][2]int{{0, 8}, {0, 3}, {2, 3}, {8, 0}, {3, 0}, {9, 1}} {
		first, _ := impl.Slice(b, c[0], c[1])
		second, _ := impl.Slice(b, c[0], c[1])
		want := string(second)
		for i := range first {
			first[i] = '!'
		}
		// The room behind a result may be used by its owner, too.
		_ = append(first[:len(first):cap(first)], "????????"...)
		if string(b) != "abcdefgh" {
			t.Errorf("Slice(b, %d, %d) shares memory with b: %q", c[0], c[1], b)
		}
		if string(second) != want {
			t.Errorf("two results of Slice(b, %d, %d) share memory: %q", c[0], c[1], second)
		}
	}
}

func TestHexText(t *testing.T) {
	for _, c := range []struct{ s, want string }{
		{"", ""}, {"\x00", "00"}, {"\x01", "01"}, {"\x09\x0a\x0f\x10", "090a0f10"}, {"\xff\x01", "ff01"}, {"a", "61"},
		{"\x9a\xa9\xfe\xef", "9aa9feef"}, {"aé€", "61c3a9e282ac"}, {"\xc0\x80\xed\xa0\x80\x80", "c080eda08080"}, {"\ufffd", "efbfbd"},
		{"\x01\x23\x45\x67\x89\xab\xcd\xef", "0123456789abcdef"},
	} {
		if got := impl.HexText(c.s); got != c.want {
			t.Errorf("HexText(%q) = %q, want %q", c.s, got, c.want)
		}
		if got, ok := impl.ParseHex(c.want); got != c.s || !ok {
			t.Errorf("ParseHex(%q) = %q, %t, want %q, true", c.want, got, ok, c.s)
		}
	}
}

func TestEveryByteInHex(t *testing.T) {
	all := []byte{}
	for c := range 256 {
		for d := range 256 {
			s := string([]byte{byte(c), byte(d)})
			all = append(all, s...)
			text := impl.HexText(s)
			if text != hex.EncodeToString([]byte(s)) {
				t.Fatalf("HexText(%q) = %q", s, text)
			}
			if back, ok := impl.ParseHex(text); back != s || !ok {
				t.Fatalf("ParseHex(%q) = %q, %t, want %q", text, back, ok, s)
			}
		}
	}
	text := impl.HexText(string(all))
	if back, ok := impl.ParseHex(text); back != string(all) || !ok || text != hex.EncodeToString(all) {
		t.Error("a long string is not read back")
	}
	if back, ok := impl.ParseHex(text + "0"); back != "" || ok {
		t.Error("half a byte is read at the end of a long string")
	}
}

// TestShortHexTexts holds ParseHex against the document's own words for all texts of up to two bytes.
func TestShortHexTexts(t *testing.T) {
	named := map[string]string{"": ""}
	for c := range 256 {
		s := string([]byte{byte(c)})
		named[hex.EncodeToString([]byte(s))] = s
	}
	check := func(text string) {
		want, listed := named[text]
		if got, ok := impl.ParseHex(text); got != want || ok != listed {
			t.Fatalf("ParseHex(%q) = %q, %t, want %q, %t", text, got, ok, want, listed)
		}
	}
	check("")
	for c := range 256 {
		check(string([]byte{byte(c)}))
		for d := range 256 {
			check(string([]byte{byte(c), byte(d)}))
		}
	}
}

func TestParseHexRejects(t *testing.T) {
	for _, s := range []string{
		"0", "f", "000", "ff0", "0ff01", "AB", "aB", "Ab", "FF", "ffFF", "FFff", "abcdeF",
		"g0", "0g", "fg", "zz", "00g0", "000g", "g000", " 00", "00 ", "0 0", " 0", "0 ", "00 00", "00\n", "0000\n\n",
		"0x00", "x0", "\\x00", "+1", "-1", "0.", "00,00", "--", "0_", "0000__",
		"\x00\x00", "0\x00", "\xff\xff", "0\xff", "é", "0é0", "\uff11", "\u0661\u0662", strings.Repeat("0", 999), strings.Repeat("0", 998) + "0G",
	} {
		if got, ok := impl.ParseHex(s); got != "" || ok {
			t.Errorf("ParseHex(%.40q) = %q, %t, want the empty string and false", s, got, ok)
		}
	}
}
