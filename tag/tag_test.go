package tag

import (
	"encoding/binary"
	"hash/crc32"
	"math"
	"slices"
	"strings"
	"testing"

	"clinker/api"
)

// data16 is as long as data may be.
const data16 = "0123456789abcdef"

// digits is a number as the library writes it: its variable-length form is layer 2's.
func digits(n int) string { return string(binary.AppendUvarint(nil, uint64(n))) }

// packed is a list as layer 2 packs it, put together beside it.
func packed(l ...int) string {
	out := digits(len(l))
	for _, n := range l {
		out += digits(n)
	}
	return out
}

// summed is a body with the sum of itself and of data behind it, by the library.
func summed(body, data string) string {
	return string(binary.LittleEndian.AppendUint32([]byte(body), crc32.ChecksumIEEE([]byte(body+data))))
}

// bodyOf is a record's lists, whether it is right or not (Values from -1 on).
func bodyOf(r api.Record) string {
	values := slices.Clone(r.Values)
	for i := range values {
		values[i]++
	}
	return packed(r.Kind, r.Seq) + packed(r.Keys...) + packed(values...)
}

// tagOf is the tag that the document asks for.
func tagOf(r api.Record, data string) string { return summed(bodyOf(r), data) }

// same tells whether two records have the same fields; an empty list is as good as none.
func same(a, b api.Record) bool {
	return a.Kind == b.Kind && a.Seq == b.Seq && slices.Equal(a.Keys, b.Keys) && slices.Equal(a.Values, b.Values)
}

// someData are data: none, short ones, bytes that are no text, and the longest.
func someData() []string {
	return []string{"", "a", "\x00", "abc", "\xff\x80\x00\x7f", "0123456789abcde", data16, strings.Repeat("\x00", 16)}
}

// rightRecords are right ones, at all the edges that the document names.
func rightRecords() []api.Record {
	var out []api.Record
	keys := [][]int{{0}, {3}, {63}, {0, 1}, {0, 63}, {62, 63}, {0, 1, 2, 3, 4, 5, 6, 7}, {56, 57, 58, 59, 60, 61, 62, 63}, {1, 4, 9, 16, 25, 36, 49}, {0, 9, 18, 27, 36, 45, 54, 63}}
	seqs := []int{0, 1, 5, 127, 128, 300, 1<<35 - 1, 1 << 35, api.MaxNumber - 1, api.MaxNumber}
	edges := []int{-1, 0, 1, 126, 127, 128, 299, 510, 511}
	for i, k := range keys {
		for _, seq := range seqs {
			out = append(out, api.Record{Kind: api.Data, Seq: seq, Keys: k})
			values := make([]int, len(k))
			for j := range values {
				values[j] = edges[(i+seq+j)%len(edges)]
			}
			out = append(out, api.Record{Kind: api.Change, Seq: seq, Keys: k, Values: values})
		}
	}
	for _, v := range edges {
		out = append(out, api.Record{Kind: api.Change, Seq: 7, Keys: []int{5}, Values: []int{v}})
		out = append(out, api.Record{Kind: api.Change, Seq: 7, Keys: []int{5, 6}, Values: []int{v, v}})
	}
	return append(out, api.Record{Kind: api.Data, Keys: []int{3}, Values: []int{}})
}

// wrong is a record that is not right, and what is wrong with it.
type wrong struct {
	why    string
	record api.Record
}

// wrongSeqs are beyond both edges of Seq.
func wrongSeqs() (out []wrong) {
	for _, seq := range []int{-1, -2, math.MinInt, api.MaxNumber + 1, api.MaxNumber + 2, math.MaxInt} {
		out = append(out, wrong{"Seq", api.Record{Kind: api.Data, Seq: seq, Keys: []int{3}}})
		out = append(out, wrong{"Seq", api.Record{Kind: api.Change, Seq: seq, Keys: []int{3}, Values: []int{3}}})
	}
	return out
}

// wrongKeys are none, too many, out of order, twice the same, and out of range.
func wrongKeys() (out []wrong) {
	for _, keys := range [][]int{
		nil, {},
		{0, 1, 2, 3, 4, 5, 6, 7, 8}, {55, 56, 57, 58, 59, 60, 61, 62, 63}, make([]int, 9), make([]int, 1000),
		{2, 1}, {63, 0}, {0, 2, 1}, {0, 1, 2, 3, 4, 5, 7, 6}, {1, 0, 2},
		{1, 1}, {0, 0}, {63, 63}, {0, 1, 1}, {0, 1, 2, 3, 4, 5, 6, 6}, {5, 6, 5},
		{-1}, {-2}, {-1, 0}, {-1, 5, 9}, {math.MinInt}, {math.MinInt, 0},
		{64}, {65}, {63, 64}, {0, 1, 64}, {math.MaxInt}, {0, math.MaxInt}, {127}, {128},
	} {
		out = append(out, wrong{"Keys", api.Record{Kind: api.Data, Seq: 5, Keys: keys}})
		out = append(out, wrong{"Keys", api.Record{Kind: api.Change, Seq: 5, Keys: keys, Values: make([]int, len(keys))}})
	}
	return out
}

// wrongValues are any of Kind Data, and too few, too many, and out of range of Kind Change.
func wrongValues() (out []wrong) {
	for _, values := range [][]int{{0}, {-1}, {511}, {1, 2}, {1, 2, 3}} {
		out = append(out, wrong{"Values of Data", api.Record{Kind: api.Data, Seq: 5, Keys: []int{1, 2}, Values: values}})
	}
	for _, values := range [][]int{nil, {}, {1}, {1, 2, 3}, make([]int, 9)} {
		out = append(out, wrong{"how many Values", api.Record{Kind: api.Change, Seq: 5, Keys: []int{1, 2}, Values: values}})
	}
	for _, v := range []int{-2, -3, math.MinInt, 512, 513, api.MaxNumber - 1, api.MaxNumber, math.MaxInt} {
		for _, values := range [][]int{{v, 0}, {0, v}, {v, v}} {
			out = append(out, wrong{"a Value", api.Record{Kind: api.Change, Seq: 5, Keys: []int{1, 2}, Values: values}})
		}
	}
	return out
}

// wrongKinds are all but Data and Change.
func wrongKinds() (out []wrong) {
	for _, kind := range []int{0, 3, 4, -1, -2, 127, 128, api.MaxNumber, math.MinInt, math.MaxInt} {
		out = append(out, wrong{"Kind", api.Record{Kind: kind, Seq: 5, Keys: []int{3}}})
		out = append(out, wrong{"Kind", api.Record{Kind: kind, Seq: 5, Keys: []int{3}, Values: []int{3}}})
	}
	return append(out, wrong{"all", api.Record{}})
}

// wrongRecords are all of these.
func wrongRecords() []wrong {
	return slices.Concat(wrongSeqs(), wrongKeys(), wrongValues(), wrongKinds())
}

// C1: right ones.
func TestRight(t *testing.T) {
	for _, r := range rightRecords() {
		if !Right(r) {
			t.Errorf("Right(%v) = false", r)
		}
	}
}

// C1: other ones.
func TestRightOfWrongRecords(t *testing.T) {
	for _, w := range wrongRecords() {
		if Right(w.record) {
			t.Errorf("%s: Right(%v) = true", w.why, w.record)
		}
	}
}

// C1: every list of at most three keys from just below the sectors to just behind them.
func TestRightOfEachKeys(t *testing.T) {
	around := []int{-2, -1, 0, 1, 2, 31, 62, 63, 64, 65}
	check := func(keys ...int) {
		t.Helper()
		want := slices.IsSorted(keys) && len(slices.Compact(slices.Clone(keys))) == len(keys) && keys[0] >= 0 && keys[len(keys)-1] <= 63
		if got := Right(api.Record{Kind: api.Data, Keys: keys}); got != want {
			t.Errorf("Keys %v: %t, want %t", keys, got, want)
		}
	}
	for _, a := range around {
		check(a)
		for _, b := range around {
			check(a, b)
			for _, c := range around {
				check(a, b, c)
			}
		}
	}
}

// C1: every single key and value around the sectors and the places.
func TestRightOfEachNumber(t *testing.T) {
	for n := -200; n < 1200; n++ {
		if got, want := Right(api.Record{Kind: api.Data, Keys: []int{n}}), n >= 0 && n < 64; got != want {
			t.Errorf("key %d: %t, want %t", n, got, want)
		}
		if got, want := Right(api.Record{Kind: api.Change, Keys: []int{0}, Values: []int{n}}), n >= -1 && n < 512; got != want {
			t.Errorf("value %d: %t, want %t", n, got, want)
		}
		if got, want := Right(api.Record{Kind: n, Keys: []int{0}}), n == api.Data; got != want {
			t.Errorf("kind %d: %t, want %t", n, got, want)
		}
		if got, want := Right(api.Record{Kind: n, Keys: []int{0}, Values: []int{0}}), n == api.Change; got != want {
			t.Errorf("kind %d with a value: %t, want %t", n, got, want)
		}
	}
}

// checkEncode holds what Encode answers against what is wanted.
func checkEncode(t *testing.T, r api.Record, data, want string, e api.Errno) {
	t.Helper()
	if got, errno := Encode(r, data); got != want || errno != e {
		t.Errorf("Encode(%v, %q) = %q, %d, want %q, %d", r, data, got, errno, want, e)
	}
}

// C2: the chapter's example, and others whose bytes are written out.
func TestEncodeOfKnownRecords(t *testing.T) {
	example := api.Record{Kind: api.Data, Seq: 5, Keys: []int{3}}
	checkEncode(t, example, "", "\x02\x01\x05\x01\x03\x00\xde\xe0\x5b\xdc", api.OK)
	checkEncode(t, example, "abc", "\x02\x01\x05\x01\x03\x00\xb4\x22\xf4\x10", api.OK)
	checkEncode(t, api.Record{Kind: api.Change, Seq: 300, Keys: []int{0, 63}, Values: []int{-1, 511}}, "d", summed("\x02\x02\xac\x02\x02\x00\x3f\x02\x00\x80\x04", "d"), api.OK)
	checkEncode(t, api.Record{Kind: api.Data, Seq: api.MaxNumber, Keys: []int{0, 1, 2, 3, 4, 5, 6, 7}}, data16, summed("\x02\x01\x80\x80\x80\x80\x80\x20\x08\x00\x01\x02\x03\x04\x05\x06\x07\x00", data16), api.OK)
}

// C2: all the right records, with all data, against the library's bytes and sums.
func TestEncode(t *testing.T) {
	for _, r := range rightRecords() {
		for _, data := range someData() {
			checkEncode(t, r, data, tagOf(r, data), api.OK)
		}
	}
}

// C2: ErrArg of records that are not right.
func TestEncodeOfWrongRecords(t *testing.T) {
	for _, w := range wrongRecords() {
		for _, data := range []string{"", "abc", data16, data16 + "g"} {
			checkEncode(t, w.record, data, "", api.ErrArg)
		}
	}
}

// C2: 16 bytes of data are taken, 17 and more are not.
func TestEncodeOfLongData(t *testing.T) {
	for _, r := range rightRecords() {
		checkEncode(t, r, data16, tagOf(r, data16), api.OK)
		for _, data := range []string{data16 + "g", data16 + "\x00", data16 + data16, strings.Repeat("x", 1<<16)} {
			checkEncode(t, r, data, "", api.ErrArg)
		}
	}
}

// checkDecode holds what Decode answers against the record that is wanted.
func checkDecode(t *testing.T, tag, data string, want api.Record) {
	t.Helper()
	if got, errno := Decode(tag, data); !same(got, want) || errno != api.OK {
		t.Errorf("Decode(%q, %q) = %v, %d, want %v, 0", tag, data, got, errno, want)
	}
}

// checkNone wants ErrTag, and nothing beside it.
func checkNone(t *testing.T, why, tag, data string) {
	t.Helper()
	if got, errno := Decode(tag, data); !same(got, api.Record{}) || errno != api.ErrTag {
		t.Errorf("%s: Decode(%q, %q) = %v, %d, want nothing and %d", why, tag, data, got, errno, api.ErrTag)
	}
}

// C3: tags that are put together beside the package.
func TestDecode(t *testing.T) {
	checkDecode(t, "\x02\x01\x05\x01\x03\x00\xde\xe0\x5b\xdc", "", api.Record{Kind: api.Data, Seq: 5, Keys: []int{3}})
	checkDecode(t, "\x02\x01\x05\x01\x03\x00\xb4\x22\xf4\x10", "abc", api.Record{Kind: api.Data, Seq: 5, Keys: []int{3}})
	for _, r := range rightRecords() {
		for _, data := range someData() {
			checkDecode(t, tagOf(r, data), data, r)
		}
	}
}

// C3: texts that end too early, with and without a sum that is right for what is left.
func TestDecodeOfShortTexts(t *testing.T) {
	for _, r := range rightRecords() {
		body, tag := bodyOf(r), tagOf(r, "abc")
		for length := range len(tag) {
			checkNone(t, "cut", tag[:length], "abc")
		}
		for length := range len(body) {
			checkNone(t, "a cut body", summed(body[:length], "abc"), "abc")
		}
	}
	for _, tag := range []string{"", "x", "\x00", "\x00\x00\x00", "\x00\x00\x00\x00", "\x80", "\xff\xff\xff\xff\xff\xff\xff\xff", "\x02\x01\x05\x01\x03\x00"} {
		checkNone(t, "short", tag, "")
	}
}

// C3: bytes ahead of the sum and behind it, also with a sum that is right for them.
func TestDecodeOfBytesBehind(t *testing.T) {
	for _, r := range rightRecords() {
		body, tag := bodyOf(r), tagOf(r, "abc")
		for _, more := range []string{"\x00", "x", "\x80", "\x00\x00\x00\x00", tag} {
			checkNone(t, "behind the tag", tag+more, "abc")
			checkNone(t, "ahead of the tag", more+tag, "abc")
			checkNone(t, "behind the body", summed(body+more, "abc"), "abc")
			checkNone(t, "behind the body", body+more+tag[len(body):], "abc")
		}
		// The data, or their beginning, stand in the tag itself.
		checkNone(t, "data in the tag", body+"abc"+tag[len(body):], "")
		checkNone(t, "data in the tag", body+"a"+tag[len(body):], "bc")
	}
}

// C3: sums that are others: noughts, all bits, turned round, of the body alone, of the data ahead.
func TestDecodeOfOtherSums(t *testing.T) {
	for _, r := range rightRecords() {
		body := bodyOf(r)
		right := tagOf(r, "abc")[len(body):]
		turned := []byte(right)
		slices.Reverse(turned)
		for _, sum := range []string{"", "\x00\x00\x00\x00", "\xff\xff\xff\xff", string(turned), summed("", body), summed("", "abc"), summed("", "abc"+body), right[:3], right + right} {
			if sum != right {
				checkNone(t, "sum", body+sum, "abc")
			}
		}
	}
}

// C3: numbers that are packed, with the right sum, but make no right record.
func TestDecodeOfWrongRecords(t *testing.T) {
	count := 0
	for _, w := range wrongRecords() {
		r := w.record
		numbers := slices.Concat([]int{r.Kind, r.Seq}, r.Keys)
		if slices.Min(numbers) < 0 || slices.Max(numbers) > api.MaxNumber {
			continue
		}
		if len(r.Values) > 0 && (slices.Min(r.Values) < -1 || slices.Max(r.Values) >= api.MaxNumber) {
			continue
		}
		count++
		for _, data := range someData() {
			checkNone(t, w.why, tagOf(r, data), data)
		}
		checkNone(t, w.why, tagOf(r, "abc"), "abd")
	}
	if count < 50 {
		t.Errorf("only %d wrong records can be packed", count)
	}
}

// C3: lists that no record has: other heads, fewer and more lists, each with the right sum.
func TestDecodeOfOtherLists(t *testing.T) {
	for _, body := range []string{
		packed() + packed(3) + packed(),
		packed(1) + packed(3) + packed(),
		packed(1, 5, 0) + packed(3) + packed(),
		packed(1, 5, 3) + packed(3) + packed(),
		packed(2, 5, 1) + packed(3) + packed(0),
		packed(1, 5),
		packed(1, 5) + packed(3),
		packed(1, 5) + packed(3) + packed() + packed(),
		packed(3) + packed(1, 5) + packed(),
		packed() + packed() + packed(),
		packed(make([]int, 300)...) + packed(3) + packed(),
		packed(1, 5) + packed(make([]int, 300)...) + packed(),
		packed(1, 5) + packed(3) + packed(make([]int, 300)...),
		"",
	} {
		checkNone(t, "lists", summed(body, ""), "")
	}
}

// C3: numbers that are longer than their Put, or beyond MaxNumber, and counts that the text doesn't have, each with the right sum.
func TestDecodeOfOtherNumbers(t *testing.T) {
	for _, body := range []string{
		"\x82\x00\x01\x05\x01\x03\x00", "\x02\x81\x00\x05\x01\x03\x00", "\x02\x01\x85\x00\x01\x03\x00",
		"\x02\x01\x05\x81\x00\x03\x00", "\x02\x01\x05\x01\x83\x00\x00", "\x02\x01\x05\x01\x03\x80\x00",
		"\x02\x02\x05\x01\x03\x01\x81\x00", "\x02\x02\x05\x01\x03\x81\x00\x01",
		"\x02\x01\x81\x80\x80\x80\x80\x20\x01\x03\x00", "\x02\x01\x80\x80\x80\x80\x80\x80\x01\x01\x03\x00",
		"\x80\x80\x80\x80\x80\x20\x01\x05\x01\x03\x00", "\x02\x01\x05\x80\x80\x80\x80\x80\x20\x03\x00", "\x02\x01\x05\x01\x03\x80\x80\x80\x80\x80\x20",
		"\x02\x01\x05\x01\xff", strings.Repeat("\xff", 100), strings.Repeat("\x80", 100), strings.Repeat("\x02", 1<<16),
	} {
		checkNone(t, "numbers", summed(body, ""), "")
	}
}

// C3: other data, and data that no Encode takes, even if the sum is theirs.
func TestDecodeOfOtherData(t *testing.T) {
	for _, r := range rightRecords() {
		tag := tagOf(r, "abc")
		for _, data := range []string{"", "ab", "abcd", "abd", "bbc", "cba", "ABC", "\x00abc", "abc\x00", data16} {
			checkNone(t, "other data", tag, data)
		}
		for _, data := range []string{data16 + "g", data16 + "\x00", data16 + data16, strings.Repeat("\x00", 17)} {
			checkNone(t, "long data", tagOf(r, data), data)
			checkNone(t, "long data", tag, data)
		}
	}
}

// texts are all texts of at most most bytes of the given ones.
func texts(alphabet string, most int) []string {
	out, last := []string{""}, []string{""}
	for range most {
		var next []string
		for _, s := range last {
			for i := range len(alphabet) {
				next = append(next, s+alphabet[i:i+1])
			}
		}
		out, last = append(out, next...), next
	}
	return out
}

// shortRecords are, by their bodies, all right records of one key or two whose bodies are of the bytes 0, 1, 2 and 128 alone.
func shortRecords() map[string]api.Record {
	// Such a number is 0, or 1 or 2 with noughts to the base 128 below it.
	seqs := []int{0}
	for weight := 1; weight <= 1<<35; weight *= 128 {
		seqs = append(seqs, weight, 2*weight)
	}
	values := []int{-1, 0, 1, 127, 255}
	out := map[string]api.Record{}
	add := func(r api.Record) { out[bodyOf(r)] = r }
	for _, seq := range seqs {
		for _, keys := range [][]int{{0}, {1}, {2}, {0, 1}, {0, 2}, {1, 2}} {
			add(api.Record{Kind: api.Data, Seq: seq, Keys: keys})
			for _, v := range values {
				if len(keys) == 1 {
					add(api.Record{Kind: api.Change, Seq: seq, Keys: keys, Values: []int{v}})
					continue
				}
				for _, w := range values {
					add(api.Record{Kind: api.Change, Seq: seq, Keys: keys, Values: []int{v, w}})
				}
			}
		}
	}
	return out
}

// C3: every short text with its right sum behind it is a tag if, and only if, a right record has it.
func TestDecodeOfEachText(t *testing.T) {
	records := shortRecords()
	found := 0
	for _, body := range texts("\x00\x01\x02\x80", 9) {
		tag := summed(body, "ab")
		if r, ok := records[body]; ok {
			found++
			checkDecode(t, tag, "ab", r)
		} else {
			checkNone(t, "a short text", tag, "ab")
		}
	}
	if found < 100 {
		t.Errorf("only %d of the texts are records", found)
	}
}

// C4: what is encoded is decoded, with the same data.
func TestEncodedIsDecoded(t *testing.T) {
	for _, r := range rightRecords() {
		for _, data := range someData() {
			tag, errno := Encode(r, data)
			if errno != api.OK {
				t.Fatalf("Encode(%v, %q): %d", r, data, errno)
			}
			checkDecode(t, tag, data, r)
		}
	}
}

// changed calls f with s as it is with each one of its bytes changed to each other one.
func changed(s string, f func(string)) {
	b := []byte(s)
	for i, was := range b {
		for d := 1; d < 256; d++ {
			b[i] = was + byte(d)
			f(string(b))
		}
		b[i] = was
	}
}

// C4: a tag with one byte changed is none.
func TestTagWithOneByteChanged(t *testing.T) {
	for _, r := range rightRecords() {
		tag, errno := Encode(r, "abc")
		if errno != api.OK {
			t.Fatalf("Encode(%v): %d", r, errno)
		}
		changed(tag, func(other string) { checkNone(t, "a byte of the tag", other, "abc") })
	}
}

// C4: a tag is none with one byte of the data changed.
func TestDataWithOneByteChanged(t *testing.T) {
	for _, data := range []string{"a", "abc", "\x00\x00", data16} {
		for _, r := range rightRecords() {
			tag, errno := Encode(r, data)
			if errno != api.OK {
				t.Fatalf("Encode(%v): %d", r, errno)
			}
			changed(data, func(other string) { checkNone(t, "a byte of the data", tag, other) })
		}
	}
}

// R3: neither a record's lists nor what stands behind their lengths is written into.
func TestListsAreLeft(t *testing.T) {
	keys, values := []int{1, 2, 99, -7}, []int{-1, 511, 77, -8}
	r := api.Record{Kind: api.Change, Seq: 5, Keys: keys[:2], Values: values[:2]}
	checkEncode(t, r, "abc", tagOf(r, "abc"), api.OK)
	Right(r)
	checkEncode(t, api.Record{Kind: api.Change, Seq: 5, Keys: keys, Values: values}, "", "", api.ErrArg)
	if !slices.Equal(keys, []int{1, 2, 99, -7}) || !slices.Equal(values, []int{-1, 511, 77, -8}) {
		t.Errorf("the lists are %v and %v behind the calls", keys, values)
	}
}

// R4: writing into an answer, or a call ahead, changes no other answer; the two lists of one answer share nothing.
func TestNoCallLeavesATrace(t *testing.T) {
	want := api.Record{Kind: api.Change, Seq: 5, Keys: []int{1, 2}, Values: []int{-1, 511}}
	tag := tagOf(want, "abc")
	first, _ := Decode(tag, "abc")
	second, _ := Decode(tag, "abc")
	first.Keys = append(first.Keys, 9, 9, 9)
	for i := range first.Keys {
		first.Keys[i] = 9
	}
	if !slices.Equal(first.Values, want.Values) || !same(second, want) {
		t.Errorf("behind what was written: Values %v, the other answer %v", first.Values, second)
	}
	Decode("x", "abc")
	Encode(api.Record{}, "")
	checkDecode(t, tag, "abc", want)
	checkEncode(t, want, "abc", tag, api.OK)
}
