package tests

import (
	"bytes"
	"math"
	"math/bits"
	"slices"
	"testing"

	"loop.example/g00502/impl"
)

// openMajors are the major types that have heads of indefinite length.
var openMajors = []int{2, 3, 4, 5, 7}

// mostIn gives the largest argument for every Wide but -1.
var mostIn = map[int]int{0: 23, 1: 255, 2: 65535, 4: 4294967295, 8: 1000000000000000}

// wideOf gives the Wide for every info above 23 that stands for something.
var wideOf = map[int]int{24: 1, 25: 2, 26: 4, 27: 8, 31: -1}

// validHead restates the definition of a valid Head.
func validHead(h impl.Head) bool {
	if h.Major < 0 || h.Major > 7 {
		return false
	}
	if h.Wide == -1 {
		return h.N == 0 && slices.Contains(openMajors, h.Major)
	}
	most, exists := mostIn[h.Wide]
	return exists && h.N >= 0 && h.N <= most
}

// headEncoding restates PutHead; it returns nothing if h is invalid.
func headEncoding(h impl.Head) []byte {
	if !validHead(h) {
		return nil
	}
	info := h.N
	for i, wide := range wideOf {
		if wide == h.Wide {
			info = i
		}
	}
	return append([]byte{byte(h.Major<<5 | info)}, bigEncoding(h.N, h.Wide)...)
}

// getHead restates GetHead: first the reasons for ErForm, then the one for ErLimit.
func getHead(b []byte, at int) (impl.Head, int, int) {
	if at < 0 || at >= len(b) {
		return impl.Head{}, 0, impl.ErForm
	}
	major, info := int(b[at]>>5), int(b[at]&31)
	if info <= 23 {
		return impl.Head{Major: major, N: info}, at + 1, impl.ErGood
	}
	wide, exists := wideOf[info]
	switch {
	case !exists:
		return impl.Head{}, 0, impl.ErForm
	case wide < 0 && slices.Contains(openMajors, major):
		return impl.Head{Major: major, Wide: -1}, at + 1, impl.ErGood
	case wide < 0 || len(b)-at-1 < wide:
		return impl.Head{}, 0, impl.ErForm
	}
	n, within := bigNumber(b[at+1 : at+1+wide])
	if !within {
		return impl.Head{}, 0, impl.ErLimit
	}
	return impl.Head{Major: major, N: n, Wide: wide}, at + 1 + wide, impl.ErGood
}

// checkHead compares GetHead with its definition and returns the code.
func checkHead(t *testing.T, b []byte, at int) int {
	t.Helper()
	want, wantNext, wantCode := getHead(b, at)
	h, next, code := impl.GetHead(b, at)
	if h != want || next != wantNext || code != wantCode {
		t.Fatalf("GetHead(%q, %d) = %v, %d, %d, want %v, %d, %d", b, at, h, next, code, want, wantNext, wantCode)
	}
	return code
}

// checkNoHead tries b at the offset 0 and behind other bytes, and there, if more is true, also before other bytes.
func checkNoHead(t *testing.T, b string, more bool, want int) {
	t.Helper()
	if h, next, code := impl.GetHead([]byte(b), 0); h != (impl.Head{}) || next != 0 || code != want {
		t.Errorf("GetHead(%q, 0) = %v, %d, %d, want the zero Head, 0, %d", b, h, next, code, want)
	}
	for _, before := range []string{"\x00", "\x9f\xff\x01", "\x1b\x00\x00\x00"} {
		whole := before + b
		if more {
			whole += "\x00\x00\x00\x00\x00\x00\x00\x00\x00"
		}
		if h, next, code := impl.GetHead([]byte(whole), len(before)); h != (impl.Head{}) || next != 0 || code != want {
			t.Errorf("GetHead(%q, %d) = %v, %d, %d, want the zero Head, 0, %d", whole, len(before), h, next, code, want)
		}
	}
}

// someHeads are heads with arguments around all limits, valid and invalid ones.
func someHeads() []impl.Head {
	l := []impl.Head{}
	majors := []int{math.MinInt, -8, -2, -1, 0, 1, 2, 3, 4, 5, 6, 7, 8, 9, 15, 31, 32, 255, 256, 258, 1 << 32, math.MaxInt}
	wides := append(otherWidths(), -3, 1, 2, 4, 8, 24, 25, 26, 27, 28, 31, math.MaxInt-1)
	for _, major := range majors {
		for _, wide := range wides {
			for _, n := range edgeInts() {
				l = append(l, impl.Head{Major: major, N: n, Wide: wide})
			}
		}
	}
	return l
}

// headTable lists heads with their encodings, in the shortest form and in longer ones.
var headTable = []struct {
	h    impl.Head
	want string
}{
	{impl.Head{}, "\x00"}, {impl.Head{N: 1}, "\x01"}, {impl.Head{N: 23}, "\x17"}, {impl.Head{Major: 1}, "\x20"}, {impl.Head{Major: 1, N: 23}, "\x37"}, {impl.Head{Major: 2, N: 4}, "\x44"}, {impl.Head{Major: 3, N: 1}, "\x61"},
	{impl.Head{Major: 4, N: 5}, "\x85"}, {impl.Head{Major: 5, N: 2}, "\xa2"}, {impl.Head{Major: 6}, "\xc0"}, {impl.Head{Major: 6, N: 17}, "\xd1"}, {impl.Head{Major: 7, N: 20}, "\xf4"}, {impl.Head{Major: 7, N: 22}, "\xf6"}, {impl.Head{Major: 7, N: 23}, "\xf7"},
	{impl.Head{N: 24, Wide: 1}, "\x18\x18"}, {impl.Head{Major: 1, N: 99, Wide: 1}, "\x38\x63"}, {impl.Head{Major: 2, N: 128, Wide: 1}, "\x58\x80"}, {impl.Head{Major: 3, N: 255, Wide: 1}, "\x78\xff"}, {impl.Head{Major: 7, N: 33, Wide: 1}, "\xf8\x21"},
	{impl.Head{N: 256, Wide: 2}, "\x19\x01\x00"}, {impl.Head{Major: 3, N: 300, Wide: 2}, "\x79\x01\x2c"}, {impl.Head{Major: 4, N: 65535, Wide: 2}, "\x99\xff\xff"}, {impl.Head{Major: 5, N: 32768, Wide: 2}, "\xb9\x80\x00"},
	{impl.Head{N: 65536, Wide: 4}, "\x1a\x00\x01\x00\x00"}, {impl.Head{Major: 1, N: 4294967295, Wide: 4}, "\x3a\xff\xff\xff\xff"}, {impl.Head{Major: 6, N: 16909060, Wide: 4}, "\xda\x01\x02\x03\x04"}, {impl.Head{Major: 7, N: 1048577, Wide: 4}, "\xfa\x00\x10\x00\x01"},
	{impl.Head{N: 4294967296, Wide: 8}, "\x1b\x00\x00\x00\x01\x00\x00\x00\x00"}, {impl.Head{Major: 1, N: 999999999999999, Wide: 8}, "\x3b\x00\x03\x8d\x7e\xa4\xc6\x7f\xff"}, {impl.Head{Major: 2, N: 283686952306183, Wide: 8}, "\x5b\x00\x01\x02\x03\x04\x05\x06\x07"}, {impl.Head{Major: 6, N: impl.MaxInt, Wide: 8}, "\xdb\x00\x03\x8d\x7e\xa4\xc6\x80\x00"},
	// A smaller width would do.
	{impl.Head{Wide: 1}, "\x18\x00"}, {impl.Head{Major: 7, N: 22, Wide: 1}, "\xf8\x16"}, {impl.Head{Major: 4, N: 23, Wide: 1}, "\x98\x17"},
	{impl.Head{Major: 6, Wide: 2}, "\xd9\x00\x00"}, {impl.Head{Major: 3, N: 5, Wide: 2}, "\x79\x00\x05"}, {impl.Head{N: 255, Wide: 2}, "\x19\x00\xff"},
	{impl.Head{Major: 5, Wide: 4}, "\xba\x00\x00\x00\x00"}, {impl.Head{Major: 1, N: 24, Wide: 4}, "\x3a\x00\x00\x00\x18"}, {impl.Head{Major: 2, N: 65535, Wide: 4}, "\x5a\x00\x00\xff\xff"},
	{impl.Head{Major: 7, Wide: 8}, "\xfb\x00\x00\x00\x00\x00\x00\x00\x00"}, {impl.Head{Major: 4, N: 1, Wide: 8}, "\x9b\x00\x00\x00\x00\x00\x00\x00\x01"}, {impl.Head{N: 4294967295, Wide: 8}, "\x1b\x00\x00\x00\x00\xff\xff\xff\xff"},
	// Indefinite length.
	{impl.Head{Major: 2, Wide: -1}, "\x5f"}, {impl.Head{Major: 3, Wide: -1}, "\x7f"}, {impl.Head{Major: 4, Wide: -1}, "\x9f"}, {impl.Head{Major: 5, Wide: -1}, "\xbf"}, {impl.Head{Major: 7, Wide: -1}, "\xff"},
}

// invalidHeads break the conditions one by one.
func invalidHeads() []impl.Head {
	l := []impl.Head{
		{Major: -1}, {Major: 8}, {Major: 9, N: 1, Wide: 1}, {Major: -1, Wide: -1}, {Major: 8, Wide: -1}, {Major: 10, Wide: -1}, {Major: 256}, {Major: math.MaxInt}, {Major: math.MinInt}, {Major: math.MinInt, Wide: -1},
		{N: 24}, {Major: 7, N: 31}, {Major: 3, N: 32}, {N: 255}, {N: 256}, {N: impl.MaxInt}, {N: -1}, {N: -24}, {N: math.MinInt},
		{N: 256, Wide: 1}, {N: 257, Wide: 1}, {N: 65536, Wide: 1}, {N: -1, Wide: 1}, {N: -256, Wide: 1}, {N: 65536, Wide: 2}, {N: 65537, Wide: 2}, {N: -1, Wide: 2}, {N: 4294967296, Wide: 4}, {N: 4294967297, Wide: 4}, {N: -1, Wide: 4},
		{N: impl.MaxInt + 1, Wide: 8}, {Major: 2, N: impl.MaxInt + 1, Wide: 8}, {N: math.MaxInt, Wide: 8}, {N: -1, Wide: 8}, {N: math.MinInt, Wide: 8},
	}
	for _, major := range []int{0, 1, 6} {
		l = append(l, impl.Head{Major: major, Wide: -1})
	}
	for _, major := range openMajors {
		for _, n := range []int{1, -1, 23, 24, 31, 256, math.MaxInt, math.MinInt} {
			l = append(l, impl.Head{Major: major, N: n, Wide: -1})
		}
	}
	for _, wide := range otherWidths() {
		if wide != 0 && wide != -1 {
			l = append(l, impl.Head{Wide: wide}, impl.Head{Major: 3, N: 1, Wide: wide}, impl.Head{Major: 7, Wide: wide})
		}
	}
	return l
}

func TestHeadOk(t *testing.T) {
	for _, c := range headTable {
		if !impl.HeadOk(c.h) {
			t.Errorf("HeadOk(%v) = false", c.h)
		}
	}
	for _, h := range invalidHeads() {
		if impl.HeadOk(h) {
			t.Errorf("HeadOk(%v) = true", h)
		}
	}
	for major := -2; major <= 9; major++ {
		for wide := -10; wide <= 33; wide++ {
			for n := -2; n <= 300; n++ {
				if h := (impl.Head{Major: major, N: n, Wide: wide}); impl.HeadOk(h) != validHead(h) {
					t.Errorf("HeadOk(%v) = %t", h, !validHead(h))
				}
			}
		}
	}
	for _, h := range someHeads() {
		if impl.HeadOk(h) != validHead(h) {
			t.Errorf("HeadOk(%v) = %t", h, !validHead(h))
		}
	}
}

func TestHeadFor(t *testing.T) {
	for _, c := range []struct{ n, wide int }{
		{0, 0}, {1, 0}, {22, 0}, {23, 0}, {24, 1}, {25, 1}, {127, 1}, {128, 1}, {254, 1}, {255, 1}, {256, 2}, {300, 2}, {32768, 2}, {65535, 2},
		{65536, 4}, {2147483647, 4}, {2147483648, 4}, {4294967295, 4}, {4294967296, 8}, {impl.MaxInt - 1, 8}, {impl.MaxInt, 8},
	} {
		for major := 0; major <= 7; major++ {
			want := impl.Head{Major: major, N: c.n, Wide: c.wide}
			if got := impl.HeadFor(major, c.n); got != want {
				t.Errorf("HeadFor(%d, %d) = %v, want %v", major, c.n, got, want)
			}
		}
		for _, major := range []int{-1, -2, -7, 8, 9, 15, 255, 256, 1 << 32, math.MaxInt, math.MinInt} {
			if got := impl.HeadFor(major, c.n); got != (impl.Head{}) {
				t.Errorf("HeadFor(%d, %d) = %v, want the zero Head", major, c.n, got)
			}
		}
	}
	for _, n := range []int{-1, -2, -23, -24, -255, -256, -impl.MaxInt, math.MinInt + 1, math.MinInt, impl.MaxInt + 1, 1 << 53, math.MaxInt - 1, math.MaxInt} {
		for major := -1; major <= 8; major++ {
			if got := impl.HeadFor(major, n); got != (impl.Head{}) {
				t.Errorf("HeadFor(%d, %d) = %v, want the zero Head", major, n, got)
			}
		}
	}
}

// TestHeadForIsSmallest tries the numbers of bytes in ascending order, without indefinite length, which is not the length of any argument.
func TestHeadForIsSmallest(t *testing.T) {
	l := edgeInts()
	for n := range 70000 {
		l = append(l, n)
	}
	for _, n := range l {
		for major := -1; major <= 8; major++ {
			want := impl.Head{}
			for _, wide := range []int{8, 4, 2, 1, 0} {
				if h := (impl.Head{Major: major, N: n, Wide: wide}); validHead(h) {
					want = h
				}
			}
			if got := impl.HeadFor(major, n); got != want {
				t.Fatalf("HeadFor(%d, %d) = %v, want %v", major, n, got, want)
			}
		}
	}
}

func TestPutHead(t *testing.T) {
	for _, before := range []string{"", "x", "\xff\x00", "\x5f\x41"} {
		for _, c := range headTable {
			if got := impl.PutHead([]byte(before), c.h); string(got) != before+c.want {
				t.Errorf("PutHead(%q, %v) = %q, want %q", before, c.h, got, before+c.want)
			}
		}
		for _, h := range invalidHeads() {
			if got := impl.PutHead([]byte(before), h); string(got) != before {
				t.Errorf("PutHead(%q, %v) = %q", before, h, got)
			}
		}
	}
	for _, c := range headTable {
		if got := impl.PutHead(nil, c.h); string(got) != c.want {
			t.Errorf("PutHead(nil, %v) = %q, want %q", c.h, got, c.want)
		}
	}
	for _, h := range invalidHeads() {
		if got := impl.PutHead(nil, h); len(got) != 0 {
			t.Errorf("PutHead(nil, %v) = %q", h, got)
		}
	}
}

func TestPutHeadSharesNoMemory(t *testing.T) {
	for _, h := range []impl.Head{{N: 5}, {Major: 3, N: 7, Wide: 1}, {Major: 3, N: 300, Wide: 2}, {Major: 6, N: 7, Wide: 4}, {Major: 1, N: 7, Wide: 8}, {Major: 4, Wide: -1}, {Major: 8}, {N: 24}, {Wide: -1}} {
		whole := []byte("abcdefghijklmnop")
		b := whole[:3]
		first, second := impl.PutHead(b, h), impl.PutHead(b, h)
		for i := range first {
			first[i] = '!'
		}
		// The room behind a result may be used by its owner, too.
		_ = append(first[:len(first):cap(first)], "????????"...)
		if string(whole) != "abcdefghijklmnop" {
			t.Errorf("PutHead(b, %v) shares memory with b: %q", h, whole)
		}
		if want := "abc" + string(headEncoding(h)); string(second) != want {
			t.Errorf("two results of PutHead(b, %v) share memory: %q", h, second)
		}
	}
}

// checkReadsHead holds promise 12 for one head: what PutHead writes is read back, at any offset and whatever follows.
func checkReadsHead(t *testing.T, h impl.Head) {
	t.Helper()
	want := headEncoding(h)
	for _, before := range []string{"", "\x1b", "\x00\xff\x19"} {
		b := impl.PutHead([]byte(before), h)
		if string(b) != before+string(want) {
			t.Fatalf("PutHead(%q, %v) = %q, want %q", before, h, b, before+string(want))
		}
		if len(want) == 0 {
			continue
		}
		end := len(b)
		for _, after := range []string{"", "\x00", "\xff", "\x00\x01\x02\x03\x04\x05\x06\x07"} {
			b := append(b[:end:end], after...)
			if got, next, code := impl.GetHead(b, len(before)); got != h || next != end || code != impl.ErGood {
				t.Fatalf("GetHead(%q, %d) = %v, %d, %d, want %v, %d, %d", b, len(before), got, next, code, h, end, impl.ErGood)
			}
		}
	}
}

func TestHeadsAreReadBack(t *testing.T) {
	for _, c := range headTable {
		checkReadsHead(t, c.h)
	}
	for _, h := range someHeads() {
		checkReadsHead(t, h)
	}
	for major := 0; major <= 7; major++ {
		for n := 0; n <= 65536; n++ {
			if n > 300 && n%251 != 0 && n < 65530 {
				continue
			}
			for wide := range mostIn {
				checkReadsHead(t, impl.Head{Major: major, N: n, Wide: wide})
			}
			checkReadsHead(t, impl.HeadFor(major, n))
		}
		for n := impl.MaxInt; n > 0; n -= n/31 + 1 {
			checkReadsHead(t, impl.Head{Major: major, N: n, Wide: 8})
			checkReadsHead(t, impl.HeadFor(major, n))
		}
	}
}

// TestIndefiniteHeads goes through the major types with the info 31, which is a head of its own for some and none for the others.
func TestIndefiniteHeads(t *testing.T) {
	for _, c := range []struct {
		initial string
		major   int
		exists  bool
	}{
		{"\x1f", 0, false}, {"\x3f", 1, false}, {"\x5f", 2, true}, {"\x7f", 3, true}, {"\x9f", 4, true}, {"\xbf", 5, true}, {"\xdf", 6, false}, {"\xff", 7, true},
	} {
		h := impl.Head{Major: c.major, Wide: -1}
		if got := impl.HeadOk(h); got != c.exists {
			t.Errorf("HeadOk(%v) = %t", h, got)
		}
		if !c.exists {
			checkNoHead(t, c.initial, true, impl.ErForm)
			if got := impl.PutHead([]byte("a"), h); string(got) != "a" {
				t.Errorf("PutHead(\"a\", %v) = %q", h, got)
			}
			continue
		}
		if got := impl.PutHead([]byte("a"), h); string(got) != "a"+c.initial {
			t.Errorf("PutHead(\"a\", %v) = %q", h, got)
		}
		// No argument follows, whatever the next bytes are.
		for _, after := range []string{"", "\x00", "\x17", "\x41a", "\xff", "\xff\xff\xff\xff\xff\xff\xff\xff"} {
			b := []byte("a" + c.initial + after)
			if got, next, code := impl.GetHead(b, 1); got != h || next != 2 || code != impl.ErGood {
				t.Errorf("GetHead(%q, 1) = %v, %d, %d, want %v, 2, %d", b, got, next, code, h, impl.ErGood)
			}
		}
		// Indefinite length is not the length 0.
		for wide := range mostIn {
			definite := impl.Head{Major: c.major, Wide: wide}
			if got := impl.PutHead(nil, definite); bytes.HasPrefix(got, []byte(c.initial)) {
				t.Errorf("PutHead(nil, %v) = %q", definite, got)
			}
		}
	}
}

func TestGetHead(t *testing.T) {
	for _, c := range headTable {
		for _, before := range []string{"", "\x01", "\xff\xff\xff"} {
			for _, after := range []string{"", "\xff", "\x00\x00"} {
				b := []byte(before + c.want + after)
				end := len(before) + len(c.want)
				if h, next, code := impl.GetHead(b, len(before)); h != c.h || next != end || code != impl.ErGood {
					t.Errorf("GetHead(%q, %d) = %v, %d, %d, want %v, %d, %d", b, len(before), h, next, code, c.h, end, impl.ErGood)
				}
			}
		}
	}
}

func TestGetHeadReservedInfo(t *testing.T) {
	for major := 0; major <= 7; major++ {
		for _, info := range []int{28, 29, 30} {
			initial := string([]byte{byte(32*major + info)})
			checkNoHead(t, initial, true, impl.ErForm)
			// Whatever follows is no argument, also if one of 8, 16, 32 or 64 bytes would exist or would be too large.
			checkNoHead(t, initial+string(bytes.Repeat([]byte{0}, 70)), true, impl.ErForm)
			checkNoHead(t, initial+string(bytes.Repeat([]byte{255}, 70)), true, impl.ErForm)
		}
	}
}

func TestGetHeadWithoutItsBytes(t *testing.T) {
	checkNoHead(t, "", false, impl.ErForm)
	for major := 0; major <= 7; major++ {
		for info, wide := range map[int]int{24: 1, 25: 2, 26: 4, 27: 8} {
			for _, c := range []byte{0, 1, 127, 128, 255} {
				for n := range wide {
					b := append([]byte{byte(32*major + info)}, bytes.Repeat([]byte{c}, n)...)
					// What is missing comes first, even where those bytes that exist show an integer above MaxInt.
					checkNoHead(t, string(b), false, impl.ErForm)
				}
			}
		}
	}
}

func TestGetHeadTooLarge(t *testing.T) {
	for major := 0; major <= 7; major++ {
		initial := string([]byte{byte(32*major + 27)})
		for _, argument := range []string{
			"\x00\x03\x8d\x7e\xa4\xc6\x80\x01", "\x00\x03\x8d\x7e\xa4\xc6\x81\x00", "\x00\x03\x8d\x7f\x00\x00\x00\x00", "\x00\x04\x00\x00\x00\x00\x00\x00", "\x00\x20\x00\x00\x00\x00\x00\x01",
			"\x01\x00\x00\x00\x00\x00\x00\x00", "\x01\x00\x00\x00\x00\x00\x00\x17", "\x40\x00\x00\x00\x00\x00\x00\x00", "\x7f\xff\xff\xff\xff\xff\xff\xff",
			// As a signed integer, these are negative.
			"\x80\x00\x00\x00\x00\x00\x00\x00", "\x80\x00\x00\x00\x00\x00\x00\x01", "\xff\xfc\x72\x81\x5b\x39\x80\x00", "\xff\xff\xff\xff\xff\xff\xff\xff",
		} {
			checkNoHead(t, initial+argument, true, impl.ErLimit)
			checkNoHead(t, initial+argument, false, impl.ErLimit)
			// With a byte less, the bytes do not all exist.
			checkNoHead(t, initial+argument[:7], false, impl.ErForm)
		}
		for d := -150; d <= 150; d++ {
			b := append([]byte(initial), bigEncoding(impl.MaxInt+d, 8)...)
			if code := checkHead(t, b, 0); (code == impl.ErLimit) != (d > 0) {
				t.Errorf("GetHead(%q, 0) gives the code %d", b, code)
			}
		}
	}
}

func TestGetHeadOffsets(t *testing.T) {
	whole := []byte("\x05\x18\x20\x79\x01\x2c\x9f\x1b\x00\x00\x00\x00\x00\x00\x00\x07\xff\x1c\xda\x00\x00\x00\x01\xf6")
	before := string(whole)
	for end := 0; end <= len(whole); end++ {
		// The bytes behind the slice exist in memory, but not in the slice.
		b := whole[:end]
		for at := -10; at <= end+10; at++ {
			checkHead(t, b, at)
		}
		for _, at := range farOffsets() {
			if h, next, code := impl.GetHead(b, at); h != (impl.Head{}) || next != 0 || code != impl.ErForm {
				t.Errorf("GetHead(%q, %d) = %v, %d, %d, want the zero Head, 0, %d", b, at, h, next, code, impl.ErForm)
			}
		}
	}
	for _, at := range append(farOffsets(), -1, 0, 1) {
		checkHead(t, nil, at)
		checkHead(t, []byte{}, at)
	}
	if string(whole) != before {
		t.Errorf("GetHead changed its bytes to %q", whole)
	}
}

// checkBytesAsHead holds promise 12 the other way: only the encoding of a head is read as that head.
func checkBytesAsHead(t *testing.T, b []byte) {
	t.Helper()
	checkHead(t, b, 0)
	h, next, code := impl.GetHead(b, 0)
	if code == impl.ErGood && (!impl.HeadOk(h) || !bytes.Equal(impl.PutHead(nil, h), b[:next])) {
		t.Fatalf("%q is read as %v, which is not written like that", b, h)
	}
}

func TestAllBytesAsHeads(t *testing.T) {
	checkBytesAsHead(t, nil)
	edges := []byte{0, 3, 23, 24, 128, 255}
	for c := range 256 {
		checkBytesAsHead(t, []byte{byte(c)})
		for d := range 256 {
			checkBytesAsHead(t, []byte{byte(c), byte(d)})
			for e := range 256 {
				if c%32 == 25 || e%17 == 0 {
					checkBytesAsHead(t, []byte{byte(c), byte(d), byte(e)})
				}
			}
		}
		for i := range 6 * 6 * 6 * 6 {
			four := []byte{edges[i/216], edges[i/36%6], edges[i/6%6], edges[i%6]}
			checkBytesAsHead(t, append([]byte{byte(c)}, four...))
			for _, more := range [][]byte{{0, 0, 0, 0}, {0, 3, 141, 126}, {0, 3}, {164, 198, 128}, {255, 255, 255, 255}, four} {
				checkBytesAsHead(t, slices.Concat([]byte{byte(c)}, four, more))
				checkBytesAsHead(t, slices.Concat([]byte{byte(c)}, more, four))
			}
		}
	}
}

func TestFltBits(t *testing.T) {
	for _, c := range []struct {
		f    impl.Flt
		want int
	}{
		{impl.Flt{}, 1048576}, {impl.Flt{M: 1}, 1048577}, {impl.Flt{M: -1}, 17825793}, {impl.Flt{M: -3, E: -1}, 17760259}, {impl.Flt{M: 3, E: 1}, 1114115}, {impl.Flt{M: 5, E: -3}, 851973},
		{impl.Flt{M: 1, E: -16}, 1}, {impl.Flt{M: -1, E: -16}, 16777217}, {impl.Flt{M: 65535, E: -16}, 65535}, {impl.Flt{M: -65535, E: -16}, 16842751}, {impl.Flt{M: 65535}, 1114111}, {impl.Flt{M: 1, E: -15}, 65537},
		{impl.Flt{M: 65535, E: 30}, 3080191}, {impl.Flt{M: -65535, E: 30}, 19857407}, {impl.Flt{M: 32767, E: 31}, 3112959}, {impl.Flt{M: 1, E: 45}, 3997697}, {impl.Flt{M: -1, E: 45}, 20774913},
	} {
		if got := impl.FltBits(c.f); got != c.want {
			t.Errorf("FltBits(%v) = %d, want %d", c.f, got, c.want)
		}
		if got, ok := impl.BitsFlt(c.want); got != c.f || !ok {
			t.Errorf("BitsFlt(%d) = %v, %t, want %v, true", c.want, got, ok, c.f)
		}
	}
	for _, f := range invalidFlts() {
		if got := impl.FltBits(f); got != -1 {
			t.Errorf("FltBits(%v) = %d, want -1", f, got)
		}
	}
	for e := -40; e <= 120; e++ {
		for m := -66; m <= 66; m++ {
			f := impl.Flt{M: m, E: e}
			if got := impl.FltBits(f); (got == -1) == validFlt(f) {
				t.Errorf("FltBits(%v) = %d", f, got)
			}
		}
	}
}

// TestFltBitsAreReadBack goes through all floating-point numbers.
func TestFltBitsAreReadBack(t *testing.T) {
	eachFlt(func(f impl.Flt) {
		n := impl.FltBits(f)
		size, minus := f.M, 0
		if f.M < 0 {
			size, minus = -f.M, 1
		}
		if n != minus<<24+(f.E+16)<<16+size {
			t.Fatalf("FltBits(%v) = %d", f, n)
		}
		if got, ok := impl.BitsFlt(n); got != f || !ok {
			t.Fatalf("BitsFlt(%d) = %v, %t, want %v, true", n, got, ok, f)
		}
	})
}

// bitsFlt restates BitsFlt for the 25 bits of n; it takes the twos out of |M| at once, and compares sizes instead of products.
func bitsFlt(n int) (impl.Flt, bool) {
	size, e := n&0xffff, n>>16&0xff-16
	if e > 100 {
		return impl.Flt{}, false
	}
	if size == 0 {
		return impl.Flt{}, true
	}
	twos := bits.TrailingZeros(uint(size))
	size, e = size>>twos, e+twos
	// The number is below 2 to the power of 46, and so M is not too large for an exponent above 30 either.
	if e+bits.Len(uint(size)) > 46 {
		return impl.Flt{}, false
	}
	if n>>24 == 1 {
		size = -size
	}
	return impl.Flt{M: size, E: e}, true
}

func TestBitsFlt(t *testing.T) {
	for _, c := range []struct {
		n    int
		want impl.Flt
	}{
		// An even M is divided by 2 until it is odd.
		{1048582, impl.Flt{M: 3, E: 1}}, {2, impl.Flt{M: 1, E: -15}}, {16777218, impl.Flt{M: -1, E: -15}}, {65534, impl.Flt{M: 32767, E: -15}}, {32768, impl.Flt{M: 1, E: -1}}, {1081344, impl.Flt{M: 1, E: 15}}, {17858560, impl.Flt{M: -1, E: 15}}, {3047424, impl.Flt{M: 1, E: 45}}, {19824640, impl.Flt{M: -1, E: 45}}, {3080190, impl.Flt{M: 32767, E: 31}},
		// Without an M, every exponent that FltNew takes gives 0, also with the bit for a negative M.
		{0, impl.Flt{}}, {65536, impl.Flt{}}, {1048576, impl.Flt{}}, {1114112, impl.Flt{}}, {4063232, impl.Flt{}}, {116 * 65536, impl.Flt{}}, {16777216, impl.Flt{}}, {16777216 + 16*65536, impl.Flt{}}, {16777216 + 116*65536, impl.Flt{}},
	} {
		if got, ok := impl.BitsFlt(c.n); got != c.want || !ok {
			t.Errorf("BitsFlt(%d) = %v, %t, want %v, true", c.n, got, ok, c.want)
		}
	}
	for _, n := range []int{
		// The exponent is too large for the M, or for FltNew.
		62*65536 + 1, 61*65536 + 2, 61*65536 + 3, 47*65536 + 65535, 47*65536 + 32769, 16777216 + 47*65536 + 65535, 116*65536 + 1, 117*65536 + 1, 255*65536 + 1, 255*65536 + 65535,
		117 * 65536, 118 * 65536, 255 * 65536, 16777215, 16777216 + 117*65536, 16777216 + 255*65536, 33554430, 33554431,
	} {
		if got, ok := impl.BitsFlt(n); got != (impl.Flt{}) || ok {
			t.Errorf("BitsFlt(%d) = %v, %t, want {0 0}, false", n, got, ok)
		}
	}
}

func TestBitsFltRange(t *testing.T) {
	for _, n := range []int{
		-1, -2, -65535, -65536, -16777216, -33554431, -33554432, 33554432, 33554433, 33554432 + 1048577, 33554432 + 16777216, 33554432 + 17825793, 1<<26 + 1048577, 1<<31 + 1048577, 4294967295, 4294967296, 4294967296 + 1048577, 1<<62 + 1048577,
		-33554432 + 1048577, -4294967296 + 1048577, math.MinInt + 1048577, math.MaxInt, math.MaxInt - 1, math.MinInt, math.MinInt + 1, impl.MaxInt,
	} {
		if got, ok := impl.BitsFlt(n); got != (impl.Flt{}) || ok {
			t.Errorf("BitsFlt(%d) = %v, %t, want {0 0}, false", n, got, ok)
		}
	}
	for _, n := range edgeInts() {
		want, exists := impl.Flt{}, false
		if n >= 0 && n <= 33554431 {
			want, exists = bitsFlt(n)
		}
		if got, ok := impl.BitsFlt(n); got != want || ok != exists {
			t.Errorf("BitsFlt(%d) = %v, %t, want %v, %t", n, got, ok, want, exists)
		}
	}
}

// TestBitsFltForAllBits goes through the whole range.
func TestBitsFltForAllBits(t *testing.T) {
	for n := 0; n <= 33554431; n++ {
		want, exists := bitsFlt(n)
		if got, ok := impl.BitsFlt(n); got != want || ok != exists {
			t.Fatalf("BitsFlt(%d) = %v, %t, want %v, %t", n, got, ok, want, exists)
		}
		if exists && !validFlt(want) {
			t.Fatalf("BitsFlt(%d) = %v, which is invalid", n, want)
		}
	}
}
