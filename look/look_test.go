package look

import (
	"encoding/binary"
	"hash/crc32"
	"math"
	"slices"
	"strings"
	"testing"

	"clinker/api"
	"clinker/tag"
)

// data16 is as long as data may be.
const data16 = "0123456789abcdef"

// same tells whether two records have the same fields; an empty list is as good as none.
func same(a, b api.Record) bool {
	return a.Kind == b.Kind && a.Seq == b.Seq && slices.Equal(a.Keys, b.Keys) && slices.Equal(a.Values, b.Values)
}

// summed is a body with the sum of itself and of data behind it, by the library.
func summed(body, data string) string {
	return string(binary.LittleEndian.AppendUint32([]byte(body), crc32.ChecksumIEEE([]byte(body+data))))
}

// someData are data: none, short ones, bytes that are no text, and the longest.
func someData() []string {
	return []string{"", "a", "\x00", "abc", "\xff\x80\x00\x7f", "0123456789abcde", data16, strings.Repeat("\x00", 16)}
}

// longData are a byte too long, or more.
func longData() []string {
	return []string{data16 + "g", data16 + "\x00", data16 + data16, strings.Repeat("\x00", 17), strings.Repeat("x", 1<<16)}
}

// rightRecords are right ones of both kinds, at the edges of their numbers.
func rightRecords() []api.Record {
	eight := []int{0, 1, 2, 3, 4, 61, 62, 63}
	var out []api.Record
	for _, seq := range []int{0, 1, 5, 127, 128, 300, api.MaxNumber - 1, api.MaxNumber} {
		out = append(out,
			api.Record{Kind: api.Data, Seq: seq, Keys: []int{0}},
			api.Record{Kind: api.Data, Seq: seq, Keys: []int{3, 63}},
			api.Record{Kind: api.Data, Seq: seq, Keys: eight},
			api.Record{Kind: api.Change, Seq: seq, Keys: []int{63}, Values: []int{-1}},
			api.Record{Kind: api.Change, Seq: seq, Keys: []int{0, 1}, Values: []int{511, 0}},
			api.Record{Kind: api.Change, Seq: seq, Keys: eight, Values: []int{-1, 0, 1, 126, 127, 128, 510, 511}})
	}
	return append(out, api.Record{Kind: api.Data, Keys: []int{3}, Values: []int{}})
}

// wrongRecords are not right: each field beyond its edges.
func wrongRecords() []api.Record {
	out := []api.Record{{}}
	for _, seq := range []int{-1, math.MinInt, api.MaxNumber + 1, math.MaxInt} {
		out = append(out, api.Record{Kind: api.Data, Seq: seq, Keys: []int{3}})
	}
	for _, kind := range []int{0, -1, 3, 128, math.MinInt, math.MaxInt} {
		out = append(out, api.Record{Kind: kind, Seq: 5, Keys: []int{3}}, api.Record{Kind: kind, Seq: 5, Keys: []int{3}, Values: []int{3}})
	}
	for _, keys := range [][]int{nil, {}, {-1}, {64}, {2, 1}, {1, 1}, {math.MinInt, math.MaxInt}, {0, 1, 2, 3, 4, 5, 6, 7, 8}, make([]int, 1000)} {
		out = append(out, api.Record{Kind: api.Data, Seq: 5, Keys: keys}, api.Record{Kind: api.Change, Seq: 5, Keys: keys, Values: make([]int, len(keys))})
	}
	for _, values := range [][]int{{0}, {0, 1}, {0, 1, 2}} {
		out = append(out, api.Record{Kind: api.Data, Seq: 5, Keys: []int{1, 2}, Values: values})
	}
	for _, values := range [][]int{nil, {0}, {0, 1, 2}, {-2, 0}, {0, 512}, {math.MinInt, math.MaxInt}} {
		out = append(out, api.Record{Kind: api.Change, Seq: 5, Keys: []int{1, 2}, Values: values})
	}
	return out
}

// tagOf is layer 3's tag; the test ends, if there is none.
func tagOf(t *testing.T, r api.Record, data string) string {
	t.Helper()
	text, errno := tag.Encode(r, data)
	if errno != api.OK {
		t.Fatalf("tag.Encode(%v, %q): %d", r, data, errno)
	}
	return text
}

// made is the page that Make answers; the test ends, if there is none.
func made(t *testing.T, w api.Write) api.Page {
	t.Helper()
	p, errno := Make(w)
	if errno != api.OK {
		t.Fatalf("Make(%v): %d", w, errno)
	}
	return p
}

// checkValid wants that a page is Valid, and tells the record.
func checkValid(t *testing.T, p api.Page, want api.Record) {
	t.Helper()
	if kind, got := Look(p); kind != 1 || !same(got, want) {
		t.Errorf("Look(%v) = %d, %v, want 1, %v", p, kind, got, want)
	}
}

// checkNoRecord wants that a page is of a kind, by its number in the chapter, and tells no record.
func checkNoRecord(t *testing.T, why string, p api.Page, want int) {
	t.Helper()
	if kind, got := Look(p); kind != want || !same(got, api.Record{}) {
		t.Errorf("%s: Look(%v) = %d, %v, want %d and no record", why, p, kind, got, want)
	}
}

// checkErased wants that a page is Erased, whatever it has.
func checkErased(t *testing.T, why string, p api.Page) {
	t.Helper()
	checkNoRecord(t, why, p, 0)
}

// checkCorrupt wants that a page is Corrupt.
func checkCorrupt(t *testing.T, why string, p api.Page) {
	t.Helper()
	checkNoRecord(t, why, p, 2)
}

// D1: the numbers that the chapter tells are those of the constants.
func TestNumbersOfConstants(t *testing.T) {
	if api.Erased != 0 || api.Valid != 1 || api.Corrupt != 2 {
		t.Errorf("Erased %d, Valid %d, Corrupt %d", api.Erased, api.Valid, api.Corrupt)
	}
}

// D1: the chapter's example, with tags whose bytes are written out.
func TestLookOfKnownPages(t *testing.T) {
	text := "\x02\x01\x05\x01\x03\x00\xb4\x22\xf4\x10"
	checkErased(t, "a page that is not Written", api.Page{})
	checkErased(t, "a page that is not Written", api.Page{Data: "abc", Tag: text})
	checkCorrupt(t, "any other tag", api.Page{Written: true, Data: "abc", Tag: "x"})
	checkCorrupt(t, "any other data", api.Page{Written: true, Data: "abd", Tag: text})
	checkValid(t, api.Page{Written: true, Data: "abc", Tag: text}, api.Record{Kind: api.Data, Seq: 5, Keys: []int{3}})
	checkValid(t, api.Page{Written: true, Tag: "\x02\x01\x05\x01\x03\x00\xde\xe0\x5b\xdc"}, api.Record{Kind: api.Data, Seq: 5, Keys: []int{3}})
	changes := summed("\x02\x02\xac\x02\x02\x00\x3f\x02\x00\x80\x04", data16)
	checkValid(t, api.Page{Written: true, Data: data16, Tag: changes}, api.Record{Kind: api.Change, Seq: 300, Keys: []int{0, 63}, Values: []int{-1, 511}})
}

// D1: pages that are not Written, with nothing, with data, with any tag, and with a right one.
func TestLookOfErasedPages(t *testing.T) {
	for _, data := range slices.Concat(someData(), longData()) {
		for _, text := range []string{"", "x", "\x00\x00\x00\x00", "\xff\xff\xff\xff"} {
			checkErased(t, "any tag", api.Page{Data: data, Tag: text})
		}
	}
	for _, r := range rightRecords() {
		for _, data := range someData() {
			checkErased(t, "a right tag", api.Page{Data: data, Tag: tagOf(t, r, data)})
			checkErased(t, "another's tag", api.Page{Data: "zz", Tag: tagOf(t, r, data)})
		}
	}
}

// D1: pages that are Written, with the right tags of their own data.
func TestLookOfValidPages(t *testing.T) {
	for _, r := range rightRecords() {
		for _, data := range someData() {
			checkValid(t, api.Page{Written: true, Data: data, Tag: tagOf(t, r, data)}, r)
		}
	}
}

// D1: pages that are Written, with no tag, or with what is none.
func TestLookOfPagesWithoutTags(t *testing.T) {
	for _, data := range slices.Concat(someData(), longData()) {
		for _, text := range []string{"", "x", "\x00", "\x00\x00\x00\x00", "\xff\xff\xff\xff\xff\xff\xff\xff", data, strings.Repeat("\x80", 100), strings.Repeat("\x02", 1<<16)} {
			checkCorrupt(t, "no tag", api.Page{Written: true, Data: data, Tag: text})
		}
		// Sums that are right, behind lists of which no record is made.
		for _, body := range []string{"", "\x00", "\x00\x00\x00", "\x02\x00\x05\x01\x03\x00", "\x02\x03\x05\x01\x03\x00", "\x02\x01\x05\x00\x00", "\x02\x01\x05\x01\x40\x00", "\x02\x01\x05\x01\x03\x01\x01", "\x02\x02\x05\x01\x03\x00", "\x02\x02\x05\x01\x03\x01\x81\x04"} {
			checkCorrupt(t, "no record", api.Page{Written: true, Data: data, Tag: summed(body, data)})
		}
	}
}

// D1: right tags of other data; tags that are cut, and with bytes ahead and behind.
func TestLookOfOtherTags(t *testing.T) {
	for _, r := range rightRecords() {
		text := tagOf(t, r, "abc")
		for _, data := range slices.Concat([]string{"ab", "abcd", "abd", "cba", "ABC", "abc\x00", "\x00abc"}, longData()) {
			checkCorrupt(t, "other data", api.Page{Written: true, Data: data, Tag: text})
		}
		for _, data := range someData() {
			if data != "abc" {
				checkCorrupt(t, "another's tag", api.Page{Written: true, Data: "abc", Tag: tagOf(t, r, data)})
			}
		}
		for length := range len(text) {
			checkCorrupt(t, "cut", api.Page{Written: true, Data: "abc", Tag: text[:length]})
			checkCorrupt(t, "cut", api.Page{Written: true, Data: "abc", Tag: text[length+1:]})
		}
		for _, more := range []string{"\x00", "x", "\x80", text} {
			checkCorrupt(t, "behind", api.Page{Written: true, Data: "abc", Tag: text + more})
			checkCorrupt(t, "ahead", api.Page{Written: true, Data: "abc", Tag: more + text})
		}
		checkCorrupt(t, "turned round", api.Page{Written: true, Data: text, Tag: "abc"})
	}
}

// D1: 16 bytes of data are Valid; 17 and more are Corrupt, even if the sum is theirs.
func TestLookOfLongData(t *testing.T) {
	body := "\x02\x01\x05\x01\x03\x00"
	checkValid(t, api.Page{Written: true, Data: data16, Tag: summed(body, data16)}, api.Record{Kind: api.Data, Seq: 5, Keys: []int{3}})
	for _, data := range longData() {
		checkCorrupt(t, "long data", api.Page{Written: true, Data: data, Tag: summed(body, data)})
		checkCorrupt(t, "the tag of the first 16", api.Page{Written: true, Data: data, Tag: summed(body, data[:16])})
	}
}

// checkMake holds what Make answers against the page that is wanted.
func checkMake(t *testing.T, w api.Write, want api.Page, e api.Errno) {
	t.Helper()
	if got, errno := Make(w); got != want || errno != e {
		t.Errorf("Make(%v) = %v, %d, want %v, %d", w, got, errno, want, e)
	}
}

// D2: a page whose bytes are written out.
func TestMakeOfAKnownWrite(t *testing.T) {
	w := api.Write{Data: "abc", Record: api.Record{Kind: api.Data, Seq: 5, Keys: []int{3}}}
	checkMake(t, w, api.Page{Written: true, Data: "abc", Tag: "\x02\x01\x05\x01\x03\x00\xb4\x22\xf4\x10"}, api.OK)
}

// D2: right records and data: Written, the data, and layer 3's tag.
func TestMake(t *testing.T) {
	for _, r := range rightRecords() {
		for _, data := range someData() {
			checkMake(t, api.Write{Data: data, Record: r}, api.Page{Written: true, Data: data, Tag: tagOf(t, r, data)}, api.OK)
		}
	}
}

// D2: ErrArg, and no page, of records that are not right.
func TestMakeOfWrongRecords(t *testing.T) {
	for _, r := range wrongRecords() {
		for _, data := range slices.Concat(someData(), longData()) {
			checkMake(t, api.Write{Data: data, Record: r}, api.Page{}, 1)
		}
	}
}

// D2: 16 bytes of data are taken; of 17 and more ErrArg, and no page.
func TestMakeOfLongData(t *testing.T) {
	for _, r := range rightRecords() {
		checkMake(t, api.Write{Data: data16, Record: r}, api.Page{Written: true, Data: data16, Tag: tagOf(t, r, data16)}, api.OK)
		for _, data := range longData() {
			checkMake(t, api.Write{Data: data, Record: r}, api.Page{}, 1)
		}
	}
}

// D3: what is made is Valid, and tells the record.
func TestMadeIsValid(t *testing.T) {
	for _, r := range rightRecords() {
		for _, data := range someData() {
			checkValid(t, made(t, api.Write{Data: data, Record: r}), r)
		}
	}
}

// changed calls f with s as it is with each one of its bytes changed to each other one.
func changed(s string, f func(string)) {
	b := []byte(s)
	for i, was := range b {
		for d := 1; d < 256; d++ {
			b[i] = was + byte(d)
			f(string(b))
		}
		b[i] = was
	}
}

// D3: what is made is Corrupt with one byte of the tag, or of the data, changed.
func TestMadeWithOneByteChanged(t *testing.T) {
	for _, r := range rightRecords() {
		for _, data := range []string{"", "abc", data16} {
			p := made(t, api.Write{Data: data, Record: r})
			changed(p.Tag, func(other string) {
				checkCorrupt(t, "a byte of the tag", api.Page{Written: true, Data: p.Data, Tag: other})
			})
			changed(p.Data, func(other string) {
				checkCorrupt(t, "a byte of the data", api.Page{Written: true, Data: other, Tag: p.Tag})
			})
		}
	}
}

// R3: neither a record's lists nor what stands behind their lengths is written into.
func TestListsAreLeft(t *testing.T) {
	keys, values := []int{1, 2, 99, -7}, []int{-1, 511, 77, -8}
	r := api.Record{Kind: api.Change, Seq: 5, Keys: keys[:2], Values: values[:2]}
	checkValid(t, made(t, api.Write{Data: "abc", Record: r}), r)
	checkMake(t, api.Write{Data: "abc", Record: api.Record{Kind: api.Change, Seq: 5, Keys: keys, Values: values}}, api.Page{}, api.ErrArg)
	if !slices.Equal(keys, []int{1, 2, 99, -7}) || !slices.Equal(values, []int{-1, 511, 77, -8}) {
		t.Errorf("the lists are %v and %v behind the calls", keys, values)
	}
}

// R4: writing into a record that was told, or a call ahead, changes no other answer; the lists of one share nothing.
func TestNoCallLeavesATrace(t *testing.T) {
	want := api.Record{Kind: api.Change, Seq: 5, Keys: []int{1, 2}, Values: []int{-1, 511}}
	p := made(t, api.Write{Data: "abc", Record: want})
	_, first := Look(p)
	_, second := Look(p)
	first.Keys = append(first.Keys, 9, 9, 9)
	for i := range first.Keys {
		first.Keys[i] = 9
	}
	if !slices.Equal(first.Values, want.Values) || !same(second, want) {
		t.Errorf("behind what was written: Values %v, the other answer %v", first.Values, second)
	}
	Look(api.Page{Written: true})
	Make(api.Write{})
	checkErased(t, "behind other calls", api.Page{})
	checkValid(t, p, want)
	checkMake(t, api.Write{Data: "abc", Record: want}, p, api.OK)
}
