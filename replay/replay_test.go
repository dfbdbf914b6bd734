package replay

import (
	"math"
	"slices"
	"strconv"
	"testing"

	"clinker/api"
	"clinker/look"
	"clinker/nand"
	"clinker/scan"
)

// sameTable tells whether two tables have the same lists; an empty one is as good as none.
func sameTable(a, b api.Table) bool {
	return slices.Equal(a.Map, b.Map) && slices.Equal(a.By, b.By)
}

// sameFound tells whether two pages that were told have the same place and the same record.
func sameFound(a, b api.Found) bool {
	x, y := a.Record, b.Record
	return a.Place == b.Place && x.Kind == y.Kind && x.Seq == y.Seq && slices.Equal(x.Keys, y.Keys) && slices.Equal(x.Values, y.Values)
}

// sameBlock tells whether two blocks have the same fields.
func sameBlock(a, b api.Block) bool {
	return slices.Equal(a.Pages, b.Pages) && a.Next == b.Next && a.Erases == b.Erases && a.Bad == b.Bad
}

// sameChip tells whether two chips have the same fields.
func sameChip(a, b api.Chip) bool {
	return slices.EqualFunc(a.Blocks, b.Blocks, sameBlock) && a.Broken == b.Broken && a.Off == b.Off && a.Ops == b.Ops
}

// wholeList is a copy of l with what stands behind its length, too, up to its capacity.
func wholeList(l []int) []int { return slices.Clone(l[:cap(l)]) }

// wholeTable is a copy of t with what stands behind the lengths of its lists, too.
func wholeTable(t api.Table) api.Table {
	return api.Table{Map: wholeList(t.Map), By: wholeList(t.By)}
}

// wholeFound is a copy of f with what stands behind the lengths of its lists, too.
func wholeFound(f api.Found) api.Found {
	f.Record.Keys, f.Record.Values = wholeList(f.Record.Keys), wholeList(f.Record.Values)
	return f
}

// wholeChip is a copy of c with what stands behind the lengths of its lists, too.
func wholeChip(c api.Chip) api.Chip {
	c.Blocks = slices.Clone(c.Blocks[:cap(c.Blocks)])
	for b, block := range c.Blocks {
		c.Blocks[b].Pages = slices.Clone(block.Pages[:cap(block.Pages)])
	}
	return c
}

// dataAt is a page of data at a place, as it is told.
func dataAt(place int, keys ...int) api.Found {
	return api.Found{Place: place, Record: api.Record{Kind: api.Data, Keys: keys}}
}

// changeAt is a page of changes at a place, as it is told.
func changeAt(place int, keys, values []int) api.Found {
	return api.Found{Place: place, Record: api.Record{Kind: api.Change, Keys: keys, Values: values}}
}

// table is a table of these lists.
func table(places, by []int) api.Table { return api.Table{Map: places, By: by} }

// page is a Valid page with a record; it panics, if there is none: then the test itself is wrong.
func page(r api.Record) api.Page {
	p, errno := look.Make(api.Write{Data: "of " + strconv.Itoa(r.Seq%1000), Record: r})
	if errno != api.OK {
		panic(errno)
	}
	return p
}

// data is a Valid page of data of a Seq.
func data(seq int, keys ...int) api.Page {
	return page(api.Record{Kind: api.Data, Seq: seq, Keys: keys})
}

// change is a Valid page of a Seq that says that one sector has another page.
func change(seq, key, value int) api.Page {
	return page(api.Record{Kind: api.Change, Seq: seq, Keys: []int{key}, Values: []int{value}})
}

// changes is a Valid page of a Seq that says it of several.
func changes(seq int, keys, values []int) api.Page {
	return page(api.Record{Kind: api.Change, Seq: seq, Keys: keys, Values: values})
}

// left is p, not Written: an erased page, whatever stands in it.
func left(p api.Page) api.Page {
	p.Written = false
	return p
}

// corrupt is p with other data than those of its tag.
func corrupt(p api.Page) api.Page {
	p.Data += "!"
	return p
}

// block is a block of pages.
func block(pages ...api.Page) api.Block { return api.Block{Pages: pages} }

// chip is a chip of blocks.
func chip(blocks ...api.Block) api.Chip { return api.Chip{Blocks: blocks} }

// checkNew wants a table of so many sectors that no page tells of.
func checkNew(t *testing.T, n, want int) {
	t.Helper()
	got := New(n)
	if len(got.Map) != want || len(got.By) != want {
		t.Errorf("New(%d) has %d and %d sectors, want %d", n, len(got.Map), len(got.By), want)
	}
	for _, place := range slices.Concat(got.Map, got.By) {
		if place != -1 {
			t.Errorf("New(%d) = %v", n, got)
		}
	}
}

// G1: all numbers of sectors that there may be, and those beyond them.
func TestNew(t *testing.T) {
	for n := range 65 {
		checkNew(t, n, n)
	}
	for _, n := range []int{-1, -2, -64, -1 << 32, math.MinInt + 1, math.MinInt} {
		checkNew(t, n, 0)
	}
	for _, n := range []int{65, 66, 128, 1 << 31, 1 << 32, 1 << 40, math.MaxInt - 1, math.MaxInt} {
		checkNew(t, n, 64)
	}
}

// R4: whoever writes into a new table changes neither its other list nor the next new table.
func TestNewTablesAreApart(t *testing.T) {
	got := New(5)
	for i := range got.Map {
		got.Map[i] = 9
	}
	if !slices.Equal(got.By, []int{-1, -1, -1, -1, -1}) {
		t.Errorf("By has changed with Map: %v", got.By)
	}
	checkNew(t, 5, 5)
}

// checkApply holds what Apply answers against what is wanted.
func checkApply(t *testing.T, why string, before api.Table, f api.Found, want api.Table) {
	t.Helper()
	if got := Apply(before, f); !sameTable(got, want) {
		t.Errorf("%s: %v and %v: %v, want %v", why, before, f, got, want)
	}
}

// G2: the chapter's example.
func TestApplyTheExample(t *testing.T) {
	first := Apply(New(4), dataAt(5, 3))
	if !sameTable(first, table([]int{-1, -1, -1, 5}, []int{-1, -1, -1, 5})) {
		t.Errorf("the first page: %v", first)
	}
	checkApply(t, "the second page", first, changeAt(6, []int{3}, []int{-1}), table([]int{-1, -1, -1, -1}, []int{-1, -1, -1, 6}))
}

// four is a table of four sectors, each of its own.
func four() api.Table { return table([]int{10, 11, 12, 13}, []int{20, 21, 22, 23}) }

// G2: Data: of one sector, of several, of all, rising or not; Values make no difference.
func TestApplyData(t *testing.T) {
	checkApply(t, "the first sector", four(), dataAt(7, 0), table([]int{7, 11, 12, 13}, []int{7, 21, 22, 23}))
	checkApply(t, "the last sector", four(), dataAt(7, 3), table([]int{10, 11, 12, 7}, []int{20, 21, 22, 7}))
	checkApply(t, "two sectors", four(), dataAt(511, 1, 3), table([]int{10, 511, 12, 511}, []int{20, 511, 22, 511}))
	checkApply(t, "falling", four(), dataAt(0, 3, 2, 1, 0), table([]int{0, 0, 0, 0}, []int{0, 0, 0, 0}))
	f := dataAt(7, 2, 0)
	f.Record.Values = []int{40, 41, 42}
	checkApply(t, "with Values", four(), f, table([]int{7, 11, 7, 13}, []int{7, 21, 7, 23}))
}

// G2: Change: of one sector, of several, of all; a sector may lose its page.
func TestApplyChange(t *testing.T) {
	checkApply(t, "one sector", four(), changeAt(7, []int{2}, []int{40}), table([]int{10, 11, 40, 13}, []int{20, 21, 7, 23}))
	checkApply(t, "nothing", four(), changeAt(7, []int{0}, []int{-1}), table([]int{-1, 11, 12, 13}, []int{7, 21, 22, 23}))
	checkApply(t, "falling", four(), changeAt(7, []int{3, 1, 0}, []int{40, 41, 42}), table([]int{42, 41, 12, 40}, []int{7, 7, 22, 7}))
	checkApply(t, "its own place", four(), changeAt(7, []int{1}, []int{7}), table([]int{10, 7, 12, 13}, []int{20, 7, 22, 23}))
}

// G2: a Change with fewer Values than Keys, with none, and with more.
func TestApplyUnlikeValues(t *testing.T) {
	keys := []int{2, 0, 3}
	checkApply(t, "none", four(), changeAt(7, keys, nil), four())
	checkApply(t, "an empty list", four(), changeAt(7, keys, []int{}), four())
	checkApply(t, "one", four(), changeAt(7, keys, []int{40}), table([]int{10, 11, 40, 13}, []int{20, 21, 7, 23}))
	checkApply(t, "two", four(), changeAt(7, keys, []int{40, 41}), table([]int{41, 11, 40, 13}, []int{7, 21, 7, 23}))
	checkApply(t, "more", four(), changeAt(7, keys, []int{40, 41, 42, 43, 44}), table([]int{41, 11, 40, 42}, []int{7, 21, 7, 7}))
	// What stands behind the length of Values is no Value.
	room := []int{40, 41, 42}
	checkApply(t, "behind the length", four(), changeAt(7, keys, room[:1]), table([]int{10, 11, 40, 13}, []int{20, 21, 7, 23}))
	checkApply(t, "nothing but what is behind it", four(), changeAt(7, keys, room[:0]), four())
}

// G2: a Value is that of its own Key, also behind Keys that are no sector.
func TestApplyCountsAllKeys(t *testing.T) {
	checkApply(t, "others between", four(), changeAt(7, []int{-1, 0, 4, 2, 99}, []int{40, 41, 42, 43, 44}), table([]int{41, 11, 43, 13}, []int{7, 21, 7, 23}))
	checkApply(t, "too few for the last", four(), changeAt(7, []int{-1, 0, 4, 2}, []int{40, 41, 42}), table([]int{41, 11, 12, 13}, []int{7, 21, 22, 23}))
}

// G2: a Key that comes twice: the later one counts, if it has a Value.
func TestApplyAKeyTwice(t *testing.T) {
	checkApply(t, "data", four(), dataAt(7, 1, 1), table([]int{10, 7, 12, 13}, []int{20, 7, 22, 23}))
	checkApply(t, "changes", four(), changeAt(7, []int{1, 1}, []int{40, 41}), table([]int{10, 41, 12, 13}, []int{20, 7, 22, 23}))
	checkApply(t, "others between", four(), changeAt(7, []int{1, 3, 1, 0}, []int{40, 41, -1, 43}), table([]int{43, -1, 12, 41}, []int{7, 7, 22, 7}))
	checkApply(t, "no second Value", four(), changeAt(7, []int{1, 1}, []int{40}), table([]int{10, 40, 12, 13}, []int{20, 7, 22, 23}))
}

// G2: other kinds tell nothing.
func TestApplyOtherKinds(t *testing.T) {
	for _, kind := range []int{0, 3, 4, 255, 257, 258, -1, -2, 1 << 32, 1<<32 + 1, math.MinInt, math.MinInt + 1, math.MinInt + 2, math.MaxInt} {
		f := changeAt(7, []int{0, 1, 2, 3}, []int{40, 41, 42, 43})
		f.Record.Kind = kind
		checkApply(t, "kind "+strconv.Itoa(kind), four(), f, four())
	}
}

// wrongKeys are no sectors of a table of four.
func wrongKeys() []int {
	return []int{-1, -2, -4, 4, 5, 63, 64, 65, 1 << 32, -1 << 32, math.MinInt, math.MinInt + 3, math.MaxInt}
}

// G2: Keys that are no sector, alone, all together and between others.
func TestApplyWrongKeys(t *testing.T) {
	for _, key := range wrongKeys() {
		checkApply(t, "data", four(), dataAt(7, key), four())
		checkApply(t, "change", four(), changeAt(7, []int{key}, []int{40}), four())
		checkApply(t, "between", four(), dataAt(7, 0, key, 3), table([]int{7, 11, 12, 7}, []int{7, 21, 22, 7}))
	}
	checkApply(t, "all", four(), dataAt(7, wrongKeys()...), four())
	checkApply(t, "all changed", four(), changeAt(7, wrongKeys(), wrongKeys()), four())
	// What stands behind the length of Keys is no Key.
	room := []int{1, 2, 3}
	checkApply(t, "behind the length", four(), dataAt(7, room[:1]...), table([]int{10, 7, 12, 13}, []int{20, 7, 22, 23}))
}

// G2: records without Keys, and empty tables.
func TestApplyOfNothing(t *testing.T) {
	checkApply(t, "a zero page", four(), api.Found{}, four())
	for _, keys := range [][]int{nil, {}} {
		checkApply(t, "data", four(), dataAt(7, keys...), four())
		checkApply(t, "change", four(), changeAt(7, keys, []int{40, 41}), four())
	}
	for _, empty := range []api.Table{{}, table([]int{}, []int{}), New(0), New(-1)} {
		checkApply(t, "a zero page", empty, api.Found{}, api.Table{})
		for key := -2; key < 70; key++ {
			checkApply(t, "data", empty, dataAt(7, key), api.Table{})
			checkApply(t, "change", empty, changeAt(7, []int{key}, []int{40}), api.Table{})
		}
	}
}

// G2: a sector is a place of Map and of By, whichever of them is longer; all else stays.
func TestApplyUnlikeLists(t *testing.T) {
	keys, values := []int{3, 2, 1, 0}, []int{43, 42, 41, 40}
	long, short := []int{10, 11, 12, 13}, []int{20, 21}
	checkApply(t, "data, a longer Map", table(long, short), dataAt(7, keys...), table([]int{7, 7, 12, 13}, []int{7, 7}))
	checkApply(t, "data, a longer By", table(short, long), dataAt(7, keys...), table([]int{7, 7}, []int{7, 7, 12, 13}))
	checkApply(t, "change, a longer Map", table(long, short), changeAt(7, keys, values), table([]int{40, 41, 12, 13}, []int{7, 7}))
	checkApply(t, "change, a longer By", table(short, long), changeAt(7, keys, values), table([]int{40, 41}, []int{7, 7, 12, 13}))
	checkApply(t, "no By", table(long, nil), dataAt(7, keys...), table(long, nil))
	checkApply(t, "no Map", table(nil, long), dataAt(7, keys...), table(nil, long))
	// What stands behind the lengths of the lists is no sector.
	checkApply(t, "behind the lengths", table(long[:2], short[:1]), dataAt(7, keys...), table([]int{7, 11}, []int{7}))
	checkApply(t, "one list for both", table(long, long), changeAt(7, []int{1}, []int{40}), table([]int{10, 40, 12, 13}, []int{10, 7, 12, 13}))
}

// G2: any numbers may be places and Values: they are taken as they are. A table may have more sectors than New makes.
func TestApplyFarNumbers(t *testing.T) {
	for _, n := range []int{-1, -2, 0, 511, 512, 1 << 40, math.MinInt, math.MaxInt} {
		checkApply(t, "data", four(), dataAt(n, 1), table([]int{10, n, 12, 13}, []int{20, n, 22, 23}))
		checkApply(t, "change by", four(), changeAt(n, []int{1}, []int{40}), table([]int{10, 40, 12, 13}, []int{20, n, 22, 23}))
		checkApply(t, "change to", four(), changeAt(7, []int{1}, []int{n}), table([]int{10, n, 12, 13}, []int{20, 7, 22, 23}))
	}
	great := table(make([]int, 1000), make([]int, 1000))
	want := wholeTable(great)
	want.Map[64], want.By[64], want.Map[999], want.By[999] = 7, 7, 7, 7
	checkApply(t, "a great table", great, dataAt(7, 999, 64, 1000), want)
}

// checkReplay holds what Replay answers against what is wanted.
func checkReplay(t *testing.T, why string, c api.Chip, n int, want api.Table, seq int) {
	t.Helper()
	if got, next := Replay(c, n); !sameTable(got, want) || next != seq {
		t.Errorf("%s: Replay = %v, %d, want %v, %d", why, got, next, want, seq)
	}
}

// G3: chips that tell nothing, of all numbers of sectors.
func TestReplayOfNothing(t *testing.T) {
	made, _ := nand.New(2, 4, []int{1})
	p := data(9, 1)
	for _, c := range []api.Chip{{}, chip(), chip(api.Block{}), chip(make([]api.Block, 40)...), made,
		chip(block(api.Page{}, left(p), corrupt(p)), block(api.Page{Written: true}, api.Page{Tag: p.Tag, Data: p.Data}))} {
		for n, size := range map[int]int{math.MinInt: 0, -1: 0, 0: 0, 1: 1, 2: 2, 63: 63, 64: 64, 65: 64, math.MaxInt: 64} {
			none := slices.Repeat([]int{-1}, size)
			checkReplay(t, "nothing, "+strconv.Itoa(n), c, n, table(none, none), 0)
		}
	}
}

// G3: the chapter's example, as pages of a chip of layer 5.
func TestReplayTheExample(t *testing.T) {
	c, _ := nand.New(1, 16, nil)
	for p := range 5 {
		c, _ = nand.Program(c, 0, p, api.Page{}, api.Fate{})
	}
	c, _ = nand.Program(c, 0, 5, data(0, 3), api.Fate{})
	checkReplay(t, "the first page", c, 4, table([]int{-1, -1, -1, 5}, []int{-1, -1, -1, 5}), 1)
	c, _ = nand.Program(c, 0, 6, change(1, 3, -1), api.Fate{})
	checkReplay(t, "both pages", c, 4, table([]int{-1, -1, -1, -1}, []int{-1, -1, -1, 6}), 2)
}

// G3: pages that tell of one sector, in one block and in several: the Seqs count, and of the same Seq the places.
func TestReplayOfOneSector(t *testing.T) {
	one := func(place int) api.Table { return table([]int{-1, place}, []int{-1, place}) }
	checkReplay(t, "rising", chip(block(data(3, 1), data(7, 1))), 2, one(1), 8)
	checkReplay(t, "falling", chip(block(data(7, 1), data(3, 1))), 2, one(0), 8)
	checkReplay(t, "the same", chip(block(data(7, 1), data(7, 1))), 2, one(1), 8)
	checkReplay(t, "rising blocks", chip(block(data(3, 1)), block(data(7, 1))), 2, one(16), 8)
	checkReplay(t, "falling blocks", chip(block(data(7, 1)), block(data(3, 1))), 2, one(0), 8)
	checkReplay(t, "the same in blocks", chip(block(data(7, 1), data(7, 1)), block(data(7, 1)), block()), 2, one(16), 8)
	checkReplay(t, "up and down", chip(block(data(5, 1), data(2, 1)), block(data(9, 1), data(0, 1)), block(data(4, 1))), 2, one(16), 10)
	checkReplay(t, "a corrupt one last", chip(block(data(5, 1), corrupt(data(9, 1))), block(left(data(8, 1)))), 2, one(0), 6)
	checkReplay(t, "a change last", chip(block(change(9, 1, 40), data(5, 1))), 2, table([]int{-1, 40}, []int{-1, 0}), 10)
	checkReplay(t, "a change first", chip(block(change(5, 1, 40), data(9, 1))), 2, one(1), 10)
	checkReplay(t, "taken away and back", chip(block(change(6, 1, -1), change(7, 1, 2), data(5, 1))), 2, table([]int{-1, 2}, []int{-1, 1}), 8)
}

// mixed is a small chip with pages of all kinds.
func mixed() api.Chip {
	return chip(
		block(data(2, 0, 1), change(4, 2, 0), api.Page{}, data(0, 1), corrupt(data(30, 0))),
		block(),
		block(changes(5, []int{0, 5, 63}, []int{-1, 33, 511}), left(data(40, 1)), data(3, 3, 5, 60)))
}

// G3: pages of all kinds, of several numbers of sectors; the next Seq hangs on the pages alone.
func TestReplayOfSomeSectors(t *testing.T) {
	full := New(64)
	for sector, places := range map[int][2]int{0: {-1, 32}, 1: {0, 0}, 2: {0, 1}, 3: {34, 34}, 5: {33, 32}, 60: {34, 34}, 63: {511, 32}} {
		full.Map[sector], full.By[sector] = places[0], places[1]
	}
	for _, n := range []int{0, 1, 2, 4, 5, 6, 60, 61, 63, 64} {
		checkReplay(t, strconv.Itoa(n)+" sectors", mixed(), n, table(full.Map[:n], full.By[:n]), 6)
	}
	for _, n := range []int{65, 66, 1 << 32, math.MaxInt} {
		checkReplay(t, strconv.Itoa(n)+" sectors", mixed(), n, full, 6)
	}
	for _, n := range []int{-1, -64, math.MinInt} {
		checkReplay(t, strconv.Itoa(n)+" sectors", mixed(), n, api.Table{}, 6)
	}
}

// G3: the next Seq: of one page, of the least and the greatest Seqs, wherever they are, whether they tell of a sector or not.
func TestReplayNextSeq(t *testing.T) {
	for _, seq := range []int{0, 1, 9, 1<<31 - 1, 1 << 31, 1<<32 - 1, 1 << 32, api.MaxNumber - 1, api.MaxNumber} {
		checkReplay(t, "data", chip(block(data(seq, 0))), 1, table([]int{0}, []int{0}), seq+1)
		checkReplay(t, "change", chip(block(change(seq, 0, 9))), 1, table([]int{9}, []int{0}), seq+1)
		checkReplay(t, "no sector", chip(block(), block(data(seq, 7))), 1, New(1), seq+1)
		checkReplay(t, "no sectors at all", chip(block(), block(data(seq, 7))), 0, New(0), seq+1)
		checkReplay(t, "behind another", chip(block(data(0, 7)), block(data(seq, 8))), 0, New(0), seq+1)
		checkReplay(t, "ahead of another", chip(block(data(seq, 8), data(0, 7))), 0, New(0), seq+1)
	}
}

// grid is a chip of so many blocks of so many pages, told by pageOf.
func grid(blocks, pages int, pageOf func(b, p int) api.Page) api.Chip {
	c := chip(make([]api.Block, blocks)...)
	for b := range c.Blocks {
		c.Blocks[b].Pages = make([]api.Page, pages)
		for p := range pages {
			c.Blocks[b].Pages[p] = pageOf(b, p)
		}
	}
	return c
}

// full is the page of a great chip of pages of all kinds, whose Seqs go up and down, many of them more than once.
func full(b, p int) api.Page {
	seq := (b*40 + p) * 211 % 89
	switch (b + 3*p) % 8 {
	case 0:
		return api.Page{}
	case 1:
		return left(data(seq, p))
	case 2:
		return corrupt(data(seq, b))
	case 3:
		return changes(seq, []int{b, b + 1, b + 9}, []int{p - 1, (16*b + p) % 512, 511 - p})
	case 4:
		return change(seq, (b*p)%64, b-1)
	}
	return data(seq, p%16, 16+b%16, 32+(b*p)%32)
}

// roomy is a chip with Valid pages and blocks behind the lengths of its lists, and a list of pages that two blocks have.
func roomy() api.Chip {
	pages := []api.Page{data(9, 1), {}, data(2, 2), data(90, 1), data(91, 3)}
	blocks := []api.Block{block(pages[:3]...), block(), block(pages[:2]...), block(data(99, 0), data(98, 2)), {Next: 9, Bad: true}}
	return chip(blocks[:3]...)
}

// someChips are made ones and ones that layer 5 does not make, each of them also Off, Broken, and both, with Bad blocks.
func someChips() []api.Chip {
	var out []api.Chip
	for _, maker := range []func() api.Chip{
		func() api.Chip { return chip() },
		func() api.Chip { return chip(make([]api.Block, 40)...) },
		func() api.Chip { return grid(32, 16, full) },
		func() api.Chip { return grid(33, 17, full) },
		func() api.Chip { return grid(3, 40, full) },
		func() api.Chip { return grid(40, 1, full) },
		mixed, roomy,
	} {
		for i := range 4 {
			c := maker()
			c.Off, c.Broken, c.Ops = i&1 != 0, i&2 != 0, -i
			for b := range c.Blocks {
				c.Blocks[b].Bad, c.Blocks[b].Next = b*i%3 == 1, i*b-5
			}
			out = append(out, c)
		}
	}
	return out
}

// lastOf is the table of n sectors of which, one by one, the last page that tells of it counts: asked from the last page back.
func lastOf(found []api.Found, n int) api.Table {
	out := New(n)
	for sector := range out.Map {
		for i := len(found) - 1; i >= 0; i-- {
			if place, ok := tells(found[i], sector); ok {
				out.Map[sector], out.By[sector] = place, found[i].Place
				break
			}
		}
	}
	return out
}

// tells is what a page tells of a sector, and whether it does.
func tells(f api.Found, sector int) (place int, ok bool) {
	for i, key := range slices.Backward(f.Record.Keys) {
		switch {
		case key != sector:
		case f.Record.Kind == 1:
			return f.Place, true
		case f.Record.Kind == 2 && i < len(f.Record.Values):
			return f.Record.Values[i], true
		}
	}
	return 0, false
}

// G3 and G4: all chips: of each sector what is told last counts.
func TestReplayTellsTheLast(t *testing.T) {
	for i, c := range someChips() {
		found, seq := scan.All(c), 0
		for _, f := range found {
			if f.Record.Seq >= seq {
				seq = f.Record.Seq + 1
			}
		}
		for _, n := range []int{-1, 0, 1, 4, 17, 63, 64, 65} {
			checkReplay(t, "chip "+strconv.Itoa(i), c, n, lastOf(found, n), seq)
		}
	}
}

// G3: whether the chip is Off or Broken, a block is Bad, and what its counts are, makes no difference.
func TestReplayLooksAtPagesAlone(t *testing.T) {
	chips := someChips()
	for i := 0; i < len(chips); i += 4 {
		want, seq := Replay(chips[i], 64)
		for _, c := range chips[i : i+4] {
			checkReplay(t, "other counts", c, 64, want, seq)
		}
	}
}

// G3: what has no place, and what stands behind the lengths, tells nothing.
func TestReplayBeyondTheLimits(t *testing.T) {
	checkReplay(t, "behind the lengths", roomy(), 4, table([]int{-1, 32, 2, -1}, []int{-1, 32, 2, -1}), 10)
	long := chip(block(slices.Repeat([]api.Page{data(5, 0)}, 17)...), block())
	long.Blocks[0].Pages[16] = data(8, 0)
	checkReplay(t, "a long block", long, 1, table([]int{15}, []int{15}), 6)
	wide := chip(slices.Repeat([]api.Block{block(data(5, 0))}, 33)...)
	wide.Blocks[32] = block(data(8, 0))
	checkReplay(t, "many blocks", wide, 1, table([]int{496}, []int{496}), 6)
}

// odd is a list of pages as no chip tells them: unknown kinds, wrong Keys, Keys that come twice, and unlike Values.
func odd() []api.Found {
	strange := changeAt(8, []int{0, 1, 2, 3}, []int{1, 2, 3, 4})
	strange.Record.Kind = 3
	return []api.Found{
		dataAt(1, 0, 1, 2), changeAt(2, []int{1, 3}, []int{1, 1}), dataAt(3, -1, 4, 2), changeAt(4, []int{2, 2, 0}, []int{9, 10}),
		{}, strange, dataAt(5, 3, 3), changeAt(6, []int{1, -5, 1}, []int{-1}), changeAt(7, []int{0}, nil), dataAt(-1, 2), dataAt(9, 99),
		changeAt(10, []int{3, 0}, []int{3, 3, 3}), dataAt(11, 1, 0), changeAt(12, []int{0}, []int{11}),
	}
}

// applied is t with all of a list applied, in order.
func applied(t api.Table, list []api.Found) api.Table {
	for _, f := range list {
		t = Apply(t, f)
	}
	return t
}

// G4: what is told last of a sector counts, of lists of any pages, each beginning of them.
func TestLastCounts(t *testing.T) {
	for i := range len(odd()) + 1 {
		list := odd()[:i]
		for n := range 6 {
			if got, want := applied(New(n), list), lastOf(list, n); !sameTable(got, want) {
				t.Errorf("%d pages, %d sectors: %v, want %v", i, n, got, want)
			}
		}
	}
}

// checkUntold wants that a page leaves all sectors as they were, but for those it tells of.
func checkUntold(t *testing.T, before api.Table, f api.Found) {
	t.Helper()
	after := Apply(before, f)
	if len(after.Map) != len(before.Map) || len(after.By) != len(before.By) {
		t.Fatalf("%v and %v: %v", before, f, after)
	}
	for sector := range min(len(before.Map), len(before.By)) {
		place, by := before.Map[sector], before.By[sector]
		if other, ok := tells(f, sector); ok {
			place, by = other, f.Place
		}
		if after.Map[sector] != place || after.By[sector] != by {
			t.Errorf("%v and %v: sector %d: %d by %d, want %d by %d", before, f, sector, after.Map[sector], after.By[sector], place, by)
		}
	}
}

// G4: sectors that are not told of stay as they were.
func TestUntoldStay(t *testing.T) {
	for _, f := range slices.Concat(odd(), scan.All(grid(32, 16, full))) {
		for n := range 65 {
			places, by := make([]int, n), make([]int, n)
			for sector := range n {
				places[sector], by[sector] = 1000+sector, 2000+sector
			}
			checkUntold(t, table(places, by), f)
		}
	}
}

// covered tells whether later pages tell of each of the sectors (of n) that a page tells of.
func covered(f api.Found, later []api.Found, n int) bool {
	for sector := range n {
		_, ok := tells(f, sector)
		again := slices.ContainsFunc(later, func(l api.Found) bool { _, ok := tells(l, sector); return ok })
		if ok && !again {
			return false
		}
	}
	return true
}

// G4: of any list, a page that tells what later ones tell may be left out; one that is the last to tell of a sector may not.
func TestLeftOutOfLists(t *testing.T) {
	for _, list := range [][]api.Found{odd(), scan.All(mixed()), scan.All(grid(3, 16, full))} {
		gone := 0
		for _, n := range []int{0, 1, 3, 4, 64} {
			want := applied(New(n), list)
			for i, f := range list {
				got := applied(New(n), slices.Concat(list[:i], list[i+1:]))
				if covered(f, list[i+1:], n) {
					gone++
					if !sameTable(got, want) {
						t.Errorf("without %d: %v, want %v", i, got, want)
					}
				} else if sameTable(got, want) {
					t.Errorf("without %d, which was wanted: %v", i, got)
				}
			}
		}
		if gone == 0 {
			t.Error("no page was left out")
		}
	}
}

// without is c, with an erased page at a place.
func without(c api.Chip, place int) api.Chip {
	c = wholeChip(chip(c.Blocks...))
	c.Blocks[place/16].Pages[place%16] = api.Page{}
	return c
}

// G4: of chips, too: such a page may be erased, and neither the table nor the next Seq is another one.
func TestLeftOutOfChips(t *testing.T) {
	for _, c := range []api.Chip{
		chip(block(data(5, 1, 2), change(6, 1, 4), data(7, 2, 3))),
		chip(block(data(5, 1, 2)), block(data(5, 1, 2))),
		grid(3, 16, full), grid(32, 16, full),
	} {
		want, seq := Replay(c, 64)
		found, gone := scan.All(c), 0
		for i, f := range found {
			if covered(f, found[i+1:], 64) {
				gone++
				checkReplay(t, "without "+strconv.Itoa(f.Place), without(c, f.Place), 64, want, seq)
			} else if got, _ := Replay(without(c, f.Place), 64); sameTable(got, want) {
				t.Errorf("without %d, which was wanted: %v", f.Place, got)
			}
		}
		if gone == 0 {
			t.Error("no page was left out")
		}
	}
}

// G4: a page that is programmed with a later Seq is applied to what was replayed ahead of it.
func TestOnePageMore(t *testing.T) {
	c, _ := nand.New(4, 5, nil)
	for i := range 20 {
		b, p := i*3%4, i/4
		before, seq := Replay(c, 8)
		r := api.Record{Kind: api.Data, Seq: seq, Keys: []int{i % 7, 7}}
		if i%3 == 1 {
			r = api.Record{Kind: api.Change, Seq: seq, Keys: []int{i % 5, 9}, Values: []int{i - 1, 3}}
		}
		c, _ = nand.Program(c, b, p, page(r), api.Fate{})
		checkReplay(t, "page "+strconv.Itoa(i), c, 8, Apply(before, api.Found{Place: scan.Place(b, p), Record: r}), i+1)
	}
}

// someTables are tables of all kinds, also with room behind their lengths, and with one list for both.
func someTables() []api.Table {
	room, other := []int{1, 2, 3, 4, 5, 6}, []int{11, 12, 13, 14, 15, 16}
	return []api.Table{{}, New(0), New(4), New(64), four(), table(room[:4], other[:3]), table(room[:0], other[:2]), table(room[:2], room[2:4]), table(other, other), table(room, nil), table(nil, room)}
}

// R3: no table, record or list that is handed to Apply has changed behind it, nor what stands behind its length.
func TestApplyLeavesItsArguments(t *testing.T) {
	room := []int{0, 1, 2, 3, 0, 1}
	pages := append(odd(), dataAt(7, room[:2]...), changeAt(7, room[:4], room[2:5]), changeAt(7, room[1:3], room[:1]), changeAt(7, room, room))
	for _, x := range someTables() {
		for _, f := range pages {
			beforeTable, beforeFound := wholeTable(x), wholeFound(f)
			Apply(x, f)
			if !sameTable(wholeTable(x), beforeTable) {
				t.Fatalf("%v: the table has become %v", f, x)
			}
			if !sameFound(wholeFound(f), beforeFound) {
				t.Fatalf("the page has become %v", f)
			}
		}
	}
	if !slices.Equal(room, []int{0, 1, 2, 3, 0, 1}) {
		t.Errorf("the list has become %v", room)
	}
}

// R3: no chip, block, page or list that is handed to Replay has changed behind it, nor what stands behind its length.
func TestReplayLeavesItsChip(t *testing.T) {
	for i, c := range someChips() {
		before := wholeChip(c)
		for _, n := range []int{math.MinInt, 0, 4, 64, math.MaxInt} {
			Replay(c, n)
		}
		if !sameChip(wholeChip(c), before) {
			t.Errorf("chip %d has changed", i)
		}
	}
}

// spoil writes into all that a table has, and behind it.
func spoil(t api.Table) {
	for _, l := range [][]int{t.Map, t.By} {
		for i := range l {
			l[i] = -9
		}
		_ = append(l, -9)
	}
}

// R4: whoever writes into an answer changes neither what was handed in nor a later answer, nor the other list of the same one.
func TestAnswersAreApart(t *testing.T) {
	pages := append(odd(), changeAt(7, []int{3, 0}, []int{5, 6}))
	for _, x := range someTables() {
		for _, f := range pages {
			beforeTable, beforeFound, want := wholeTable(x), wholeFound(f), wholeTable(Apply(x, f))
			spoil(Apply(x, f))
			got := Apply(x, f)
			spoil(table(got.Map, nil))
			if !sameTable(wholeTable(x), beforeTable) || !sameFound(wholeFound(f), beforeFound) {
				t.Fatalf("%v and %v have changed with the answer", x, f)
			}
			if len(got.By) > 0 && !slices.Equal(got.By, want.By[:len(got.By)]) {
				t.Fatalf("By has changed with Map: %v", got)
			}
		}
	}
	for i, c := range someChips() {
		before := wholeChip(c)
		want, seq := Replay(c, 64)
		got, _ := Replay(c, 64)
		spoil(got)
		if !sameChip(wholeChip(c), before) {
			t.Errorf("chip %d has changed with the answer", i)
		}
		checkReplay(t, "again", c, 64, want, seq)
	}
}

// The generic function goes through its list once, in order, whatever its types are.
func TestFold(t *testing.T) {
	join := func(s string, n int) string { return s + strconv.Itoa(n) }
	if got := fold([]int{3, 1, 2}, "a", join); got != "a312" {
		t.Errorf("fold = %q", got)
	}
	if got := fold(nil, "a", join); got != "a" {
		t.Errorf("fold of nothing = %q", got)
	}
}
