package pack

import (
	"encoding/binary"
	"math"
	"slices"
	"strings"
	"testing"

	"clinker/api"
)

// someNumbers are numbers that have a Put: small ones, all of two digits, and both sides of each power of two and of the base.
func someNumbers() []int {
	var out []int
	for n := range 128*128 + 300 {
		out = append(out, n)
	}
	for bit := 15; bit <= 40; bit++ {
		for d := -3; d <= 3; d++ {
			if n := 1<<bit + d; n <= api.MaxNumber {
				out = append(out, n)
			}
		}
	}
	seed := uint64(1)
	for range 5000 {
		seed = seed*6364136223846793005 + 1442695040888963407
		out = append(out, int(seed>>24)%(api.MaxNumber+1))
	}
	slices.Sort(out)
	return slices.Compact(out)
}

// otherNumbers have no Put, on both sides.
func otherNumbers() []int {
	return []int{
		-1, -2, -127, -128, -129, -300, -api.MaxNumber, -api.MaxNumber - 1, math.MinInt32, math.MinInt + 1, math.MinInt,
		api.MaxNumber + 1, api.MaxNumber + 2, api.MaxNumber + 128, 2 * api.MaxNumber, 1<<42 - 1, 1 << 42, 1 << 48, math.MaxInt - 1, math.MaxInt,
	}
}

// digits is what the library makes of a number: its variable-length form is the same one.
func digits(n int) string { return string(binary.AppendUvarint(nil, uint64(n))) }

// packed is a Pack that is put together beside the package.
func packed(l ...int) string {
	out := digits(len(l))
	for _, n := range l {
		out += digits(n)
	}
	return out
}

// texts are all texts of at most most bytes of the given ones.
func texts(alphabet string, most int) []string {
	out, last := []string{""}, []string{""}
	for range most {
		var next []string
		for _, s := range last {
			for i := range len(alphabet) {
				next = append(next, s+alphabet[i:i+1])
			}
		}
		out, last = append(out, next...), next
	}
	return out
}

// B1: the chapter's example, and the edges.
func TestPutOfKnownNumbers(t *testing.T) {
	for _, c := range []struct {
		n    int
		want string
	}{
		{0, "\x00"},
		{1, "\x01"},
		{127, "\x7f"},
		{128, "\x80\x01"},
		{129, "\x81\x01"},
		{255, "\xff\x01"},
		{256, "\x80\x02"},
		{300, "\xac\x02"},
		{16383, "\xff\x7f"},
		{16384, "\x80\x80\x01"},
		{1 << 35, "\x80\x80\x80\x80\x80\x01"},
		{1<<35 - 1, "\xff\xff\xff\xff\x7f"},
		{api.MaxNumber - 1, "\xff\xff\xff\xff\xff\x1f"},
		{api.MaxNumber, "\x80\x80\x80\x80\x80\x20"},
	} {
		if got := Put(c.n); got != c.want {
			t.Errorf("Put(%d) = %q, want %q", c.n, got, c.want)
		}
	}
}

// B1: many numbers, against the library's form.
func TestPutAgainstTheLibrary(t *testing.T) {
	for _, n := range someNumbers() {
		if got, want := Put(n), digits(n); got != want {
			t.Fatalf("Put(%d) = %q, want %q", n, got, want)
		}
	}
}

// B1: nothing of any other number.
func TestPutOfOtherNumbers(t *testing.T) {
	for _, n := range otherNumbers() {
		if got := Put(n); got != "" {
			t.Errorf("Put(%d) = %q, want nothing", n, got)
		}
	}
}

// checkTake holds what Take answers against what is wanted.
func checkTake(t *testing.T, s string, n int, rest string, ok bool) {
	t.Helper()
	gotN, gotRest, gotOK := Take(s)
	if gotN != n || gotRest != rest || gotOK != ok {
		t.Errorf("Take(%q) = %d, %q, %t, want %d, %q, %t", s, gotN, gotRest, gotOK, n, rest, ok)
	}
}

// B2: numbers with nothing, and with other bytes, behind them.
func TestTake(t *testing.T) {
	for _, n := range someNumbers() {
		for _, behind := range []string{"", "\x00", "\x80", "\xff\xff", "\x01\xac\x02", "xyz"} {
			checkTake(t, digits(n)+behind, n, behind, true)
		}
	}
}

// B2: texts that begin with no Put.
func TestTakeOfOtherTexts(t *testing.T) {
	for _, s := range []string{
		"",
		// The text ends amid the number.
		"\x80", "\xff", "\xac", "\x80\x80", "\xff\xff\xff\xff\xff", "\x80\x80\x80\x80\x80",
		// A nought at the end of the digits: there is a shorter Put.
		"\x80\x00", "\xac\x00", "\xff\x00xy", "\xac\x82\x00", "\x80\x80\x80\x80\x80\x00", "\xff\xff\xff\xff\xff\x00",
		// Beyond MaxNumber, by one, by a digit, and far.
		"\x81\x80\x80\x80\x80\x20", "\x80\x80\x80\x80\x80\x21", "\xff\xff\xff\xff\xff\x20", "\xff\xff\xff\xff\xff\x7f",
		"\x80\x80\x80\x80\x80\x80\x01", "\x80\x80\x80\x80\x80\xa0\x00", "\x80\x80\x80\x80\x80\x80\x00", "\xff\xff\xff\xff\xff\xff\xff\xff\x7f",
		// Digits whose weight goes beyond 64 bits: a sum that wraps round must not come out as a number.
		"\x80\x80\x80\x80\x80\x80\x80\x80\x80\x02", "\x81\x80\x80\x80\x80\x80\x80\x80\x80\x02", "\x80\x80\x80\x80\x80\x80\x80\x80\x80\x80\x01",
		strings.Repeat("\x80", 1000) + "\x01", strings.Repeat("\xff", 1<<16), strings.Repeat("\x80", 1<<16),
	} {
		checkTake(t, s, 0, "", false)
	}
	for _, n := range otherNumbers() {
		checkTake(t, digits(n), 0, "", false)
	}
}

// checkTakeOfEach holds Take of each text against the library, which takes longer forms and greater numbers, too.
func checkTakeOfEach(t *testing.T, list []string) {
	t.Helper()
	for _, s := range list {
		n, length := binary.Uvarint([]byte(s))
		if length > 0 && n <= api.MaxNumber && digits(int(n)) == s[:length] {
			checkTake(t, s, int(n), s[length:], true)
		} else {
			checkTake(t, s, 0, "", false)
		}
	}
}

// B2: every text of at most two bytes, and all texts of up to seven of the bytes at the digits' edges.
func TestTakeOfEachText(t *testing.T) {
	all := make([]byte, 256)
	for i := range all {
		all[i] = byte(i)
	}
	checkTakeOfEach(t, texts(string(all), 2))
	checkTakeOfEach(t, texts("\x00\x01\x20\x80\xff", 7))
}

// checkPack holds what Pack answers against what is wanted.
func checkPack(t *testing.T, l []int, s string, e api.Errno) {
	t.Helper()
	if got, errno := Pack(l); got != s || errno != e {
		t.Errorf("Pack(%v) = %q, %d, want %q, %d", l, got, errno, s, e)
	}
}

// B3: the chapter's example, lists that are empty, and longer ones.
func TestPack(t *testing.T) {
	checkPack(t, []int{1, 300}, "\x02\x01\xac\x02", api.OK)
	checkPack(t, []int{300, 1}, "\x02\xac\x02\x01", api.OK)
	checkPack(t, nil, "\x00", api.OK)
	checkPack(t, []int{}, "\x00", api.OK)
	checkPack(t, []int{0}, "\x01\x00", api.OK)
	checkPack(t, []int{0, 0, 0}, "\x03\x00\x00\x00", api.OK)
	checkPack(t, []int{7, 7}, "\x02\x07\x07", api.OK)
	checkPack(t, []int{api.MaxNumber, 127, 128}, "\x03\x80\x80\x80\x80\x80\x20\x7f\x80\x01", api.OK)
	for _, count := range []int{1, 126, 127, 128, 129, 300, 16383, 16384, 20000} {
		l := make([]int, count)
		for i := range l {
			l[i] = i * i
		}
		checkPack(t, l, packed(l...), api.OK)
	}
}

// B3: a number that has no Put, at whatever place it stands.
func TestPackOfOtherNumbers(t *testing.T) {
	for _, n := range otherNumbers() {
		for _, l := range [][]int{{n}, {n, 1, 300}, {1, n, 300}, {1, 300, n}, {n, n}} {
			checkPack(t, l, "", api.ErrArg)
		}
	}
}

// R3: neither the list nor what stands behind its length is written into.
func TestPackLeavesItsList(t *testing.T) {
	whole := []int{1, 300, -1, 5}
	checkPack(t, whole[:2], "\x02\x01\xac\x02", api.OK)
	checkPack(t, whole[:3], "", api.ErrArg)
	if !slices.Equal(whole, []int{1, 300, -1, 5}) {
		t.Errorf("the list is %v behind the calls", whole)
	}
}

// checkUnpack holds what Unpack answers against what is wanted.
func checkUnpack(t *testing.T, s string, l []int, rest string, e api.Errno) {
	t.Helper()
	got, gotRest, errno := Unpack(s)
	if !slices.Equal(got, l) || gotRest != rest || errno != e {
		t.Errorf("Unpack(%q) = %v, %q, %d, want %v, %q, %d", s, got, gotRest, errno, l, rest, e)
	}
}

// B4: the chapter's example and the edges, with nothing and with other bytes behind them.
func TestUnpack(t *testing.T) {
	checkUnpack(t, "\x02\x01\xac\x02", []int{1, 300}, "", api.OK)
	checkUnpack(t, "\x02\x01\xac\x02z", []int{1, 300}, "z", api.OK)
	checkUnpack(t, "\x00", nil, "", api.OK)
	checkUnpack(t, "\x00\x80", nil, "\x80", api.OK)
	checkUnpack(t, "\x00\x00", nil, "\x00", api.OK)
	checkUnpack(t, "\x01\x00", []int{0}, "", api.OK)
	checkUnpack(t, "\x01\x02\x03\x04", []int{2}, "\x03\x04", api.OK)
	checkUnpack(t, "\x01\x80\x80\x80\x80\x80\x20", []int{api.MaxNumber}, "", api.OK)
}

// B4: texts that begin with no Pack.
func TestUnpackOfOtherTexts(t *testing.T) {
	for _, s := range []string{
		"",
		// No count.
		"\x80", "\x80\x00", "\x82\x00\x01\x01", "\x81\x80\x80\x80\x80\x20\x01", "\xff\xff\xff\xff\xff\xff\xff\xff\x7f\x01",
		// Fewer numbers than the count says.
		"\x01", "\x02\x01", "\x03\x01\xac\x02", "\xff\x01x", "\x80\x01" + strings.Repeat("\x05", 127),
		// The greatest counts, which no text here has.
		"\x80\x80\x80\x80\x80\x20", "\xff\xff\xff\xff\xff\x1f" + strings.Repeat("\x00", 1000),
		// A number that is none: the text ends amid it, noughts at its end, beyond MaxNumber.
		"\x01\x80", "\x02\x01\xac", "\x02\x80\x01", "\x01\x80\x00", "\x02\xac\x00\x01", "\x02\x01\xac\x00", "\x01\x81\x80\x80\x80\x80\x20", "\x02\x05\x80\x80\x80\x80\x80\x80\x01\x05",
	} {
		checkUnpack(t, s, nil, "", api.ErrPack)
	}
}

// shortPacks are all lists of the given numbers whose Pack has at most most bytes, by their Packs.
func shortPacks(numbers []int, most int) map[string][]int {
	out := map[string][]int{}
	var grow func(l []int)
	grow = func(l []int) {
		if s := packed(l...); len(s) <= most {
			out[s] = l
			for _, n := range numbers {
				grow(append(slices.Clone(l), n))
			}
		}
	}
	grow(nil)
	return out
}

// B4, B5: of every text of at most six of the bytes at the digits' edges: at most one Pack is its beginning, and that one is unpacked.
func TestUnpackOfEachText(t *testing.T) {
	const most = 6
	list := texts("\x00\x01\x02\x80\xff", most)
	// The library's answers alone tell which of the texts are numbers.
	var numbers []int
	for _, s := range list {
		if n, length := binary.Uvarint([]byte(s)); length == len(s) && length > 0 && n <= api.MaxNumber && digits(int(n)) == s {
			numbers = append(numbers, int(n))
		}
	}
	slices.Sort(numbers)
	packs := shortPacks(numbers, most)
	for _, s := range list {
		var want []int
		rest, found := "", 0
		for length := range len(s) + 1 {
			if l, ok := packs[s[:length]]; ok {
				want, rest = l, s[length:]
				found++
			}
		}
		if found > 1 {
			t.Fatalf("%q begins with %d Packs", s, found)
		}
		if found == 1 {
			checkUnpack(t, s, want, rest, api.OK)
		} else {
			checkUnpack(t, s, nil, "", api.ErrPack)
		}
	}
}

// B5: what is packed is unpacked, whatever stands behind it.
func TestPackedIsUnpacked(t *testing.T) {
	numbers := someNumbers()
	lists := [][]int{nil, {0}, {api.MaxNumber}, {0, 127, 128, 300, api.MaxNumber}, numbers}
	for i := range 200 {
		lists = append(lists, numbers[i:2*i], numbers[len(numbers)-i:])
	}
	for _, l := range lists {
		s, e := Pack(l)
		if e != api.OK {
			t.Fatalf("Pack(%v): %d", l, e)
		}
		for _, behind := range []string{"", "\x00", "\x01", "\x7f", "\x80", "\xff\xff\xff\xff\xff\xff\xff", "\x02\x01\xac\x02", s} {
			checkUnpack(t, s+behind, l, behind, api.OK)
		}
	}
}

// B5: no Put is the beginning of another one.
func TestNoPutBeginsAnother(t *testing.T) {
	numbers := map[string]int{}
	for _, n := range someNumbers() {
		s := Put(n)
		if other, ok := numbers[s]; ok {
			t.Fatalf("%d and %d have the same Put %q", other, n, s)
		}
		numbers[s] = n
	}
	for s, n := range numbers {
		for length := range len(s) {
			if other, ok := numbers[s[:length]]; ok {
				t.Fatalf("Put(%d) = %q begins with that of %d", n, s, other)
			}
		}
	}
}

// R4: a call ahead of it changes no answer, nor does writing into an answer.
func TestNoCallLeavesATrace(t *testing.T) {
	l, _, _ := Unpack("\x02\x01\xac\x02")
	l[0], l[1] = -1, -1
	Pack(l)
	Take("\x80\x00")
	Put(-1)
	checkUnpack(t, "\x02\x01\xac\x02", []int{1, 300}, "", api.OK)
	checkPack(t, []int{1, 300}, "\x02\x01\xac\x02", api.OK)
	checkTake(t, "\xac\x02z", 300, "z", true)
}
