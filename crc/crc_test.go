package crc

import (
	"hash/crc32"
	"math"
	"strings"
	"testing"
)

// mixed is a text of n bytes of all values, the same one for the same n and seed.
func mixed(n int, seed uint32) string {
	out := make([]byte, n)
	for i := range out {
		seed = seed*1664525 + 1013904223
		out[i] = byte(seed >> 24)
	}
	return string(out)
}

// someTexts are ordinary texts and edges.
func someTexts() []string {
	texts := []string{
		"", "a", "abc", "123456789", "The quick brown fox jumps over the lazy dog",
		"\x00", "\x00\x00\x00\x00", "\x00\x00\x00\x01", "\x01\x00\x00\x00",
		"\x7f", "\x80", "\xfe", "\xff", "\xff\xff\xff\xff", "\x80\xc3\x28\xff\x00",
		"gr\u00fc\u00dfe", "\u2603", "\U0001f600", "line\r\n", strings.Repeat("x", 1<<16),
	}
	for n := range 70 {
		texts = append(texts, mixed(n, uint32(n)))
	}
	return texts
}

// A1: the values that are published for this CRC.
func TestSumOfKnownTexts(t *testing.T) {
	for _, c := range []struct {
		text string
		want int
	}{
		{"", 0},
		{"123456789", 0xCBF43926},
		{"a", 0xE8B7BE43},
		{"abc", 0x352441C2},
		{"The quick brown fox jumps over the lazy dog", 0x414FA339},
		{"\x00", 0xD202EF8D},
		{"\x00\x00\x00\x00", 0x2144DF1C},
		{"\xff", 0xFF000000},
		{"\xff\xff\xff\xff", 0xFFFFFFFF},
	} {
		if got := Sum(c.text); got != c.want {
			t.Errorf("Sum(%q) = %#x, want %#x", c.text, got, c.want)
		}
	}
}

// A1: every text of one byte, every one of two, and longer ones, against the library's sum.
func TestSumAgainstTheLibrary(t *testing.T) {
	texts := someTexts()
	for a := range 256 {
		texts = append(texts, string([]byte{byte(a)}))
		for b := range 256 {
			texts = append(texts, string([]byte{byte(a), byte(b)}))
		}
	}
	for _, s := range texts {
		if got, want := Sum(s), int(crc32.ChecksumIEEE([]byte(s))); got != want {
			t.Fatalf("Sum(%q) = %#x, want %#x", s, got, want)
		}
	}
}

// A1: a sum is never below 0, though its highest bit may be set, and never beyond 32 bits.
func TestSumIsWithinItsBounds(t *testing.T) {
	high := false
	for _, s := range someTexts() {
		got := Sum(s)
		if got < 0 || got > math.MaxUint32 {
			t.Errorf("Sum(%q) = %d", s, got)
		}
		high = high || got > math.MaxInt32
	}
	if !high {
		t.Error("no sum has its highest bit set: the texts do not show the upper half")
	}
}

// A2: the lowest four bits, each of the sixteen numbers among them.
func TestPrint(t *testing.T) {
	if got := Print("123456789"); got != 6 {
		t.Errorf("Print of the chapter's text = %d, want 6", got)
	}
	if got := Print(""); got != 0 {
		t.Errorf("Print of nothing = %d, want 0", got)
	}
	seen := [16]int{}
	for _, s := range someTexts() {
		got, want := Print(s), int(crc32.ChecksumIEEE([]byte(s))%16)
		if got != want {
			t.Fatalf("Print(%q) = %d, want %d", s, got, want)
		}
		seen[got]++
	}
	for n, times := range seen {
		if times == 0 {
			t.Errorf("no text has the print %d", n)
		}
	}
}

// A3: ordinary numbers and both ends, the lowest byte first.
func TestBytes(t *testing.T) {
	for _, c := range []struct {
		n    int
		want string
	}{
		{0, "\x00\x00\x00\x00"},
		{1, "\x01\x00\x00\x00"},
		{0xff, "\xff\x00\x00\x00"},
		{0x100, "\x00\x01\x00\x00"},
		{0x10000, "\x00\x00\x01\x00"},
		{0x1000000, "\x00\x00\x00\x01"},
		{0x12345678, "\x78\x56\x34\x12"},
		{math.MaxInt32, "\xff\xff\xff\x7f"},
		{math.MaxInt32 + 1, "\x00\x00\x00\x80"},
		{0xCBF43926, "\x26\x39\xf4\xcb"},
		{math.MaxUint32 - 1, "\xfe\xff\xff\xff"},
		{math.MaxUint32, "\xff\xff\xff\xff"},
	} {
		if got := Bytes(c.n); got != c.want {
			t.Errorf("Bytes(%#x) = %q, want %q", c.n, got, c.want)
		}
	}
}

// A3: numbers that have no four bytes, on both sides.
func TestBytesOfOtherNumbers(t *testing.T) {
	for _, n := range []int{
		-1, -2, -256, math.MinInt32, -math.MaxUint32, -(1 << 32), math.MinInt,
		1 << 32, 1<<32 + 1, 1<<32 + 0x12345678, 1 << 40, math.MaxInt,
	} {
		if got := Bytes(n); got != "" {
			t.Errorf("Bytes(%d) = %q, want nothing", n, got)
		}
	}
}

// xor3 is the text whose bytes are the exclusive or of those of three texts as long.
func xor3(a, b, c string) string {
	out := make([]byte, len(a))
	for i := range out {
		out[i] = a[i] ^ b[i] ^ c[i]
	}
	return string(out)
}

// A4: of three texts as long, the sums are linear.
func TestSumsAreLinear(t *testing.T) {
	check := func(a, b, c string) {
		t.Helper()
		if got, want := Sum(a)^Sum(b)^Sum(c), Sum(xor3(a, b, c)); got != want {
			t.Errorf("%q, %q, %q: %#x, want %#x", a, b, c, got, want)
		}
	}
	check("", "", "")
	check("abc", "xyz", "\x00\x80\xff")
	check("\x00\x00\x00", "\x00\x00\x00", "\xff\xff\xff")
	for n := range 100 {
		check(mixed(n, 1), mixed(n, 2), mixed(n, 3))
	}
}

// A4: a text with its Sum's bytes behind it has always the same sum.
func TestTextWithItsSum(t *testing.T) {
	const always = 0x2144DF1C
	for _, s := range someTexts() {
		if got := Sum(s + Bytes(Sum(s))); got != always {
			t.Errorf("%q with its sum behind it: %#x, want %#x", s, got, always)
		}
	}
}

// A4: texts of noughts of unlike lengths have unlike sums.
func TestNoughts(t *testing.T) {
	const most = 3000
	noughts := strings.Repeat("\x00", most)
	lengths := map[int]int{}
	for n := range most + 1 {
		sum := Sum(noughts[:n])
		if other, ok := lengths[sum]; ok {
			t.Fatalf("%d and %d noughts have the same sum %#x", other, n, sum)
		}
		lengths[sum] = n
	}
}

// R4: a call ahead of it changes no answer.
func TestNoCallLeavesATrace(t *testing.T) {
	first := [2]int{Sum("abc"), Print("abc")}
	bytes := Bytes(0x12345678)
	for _, s := range someTexts() {
		Sum(s)
		Print(s)
		Bytes(len(s))
	}
	if [2]int{Sum("abc"), Print("abc")} != first || Bytes(0x12345678) != bytes {
		t.Error("the same call answers otherwise behind other calls")
	}
}
