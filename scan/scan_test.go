package scan

import (
	"math"
	"slices"
	"strconv"
	"testing"

	"clinker/api"
	"clinker/look"
	"clinker/nand"
)

// sameRecord tells whether two records have the same fields; an empty list is as good as none.
func sameRecord(a, b api.Record) bool {
	return a.Kind == b.Kind && a.Seq == b.Seq && slices.Equal(a.Keys, b.Keys) && slices.Equal(a.Values, b.Values)
}

// sameFound tells whether two pages that were told have the same place and the same record.
func sameFound(a, b api.Found) bool {
	return a.Place == b.Place && sameRecord(a.Record, b.Record)
}

// sameAll tells whether two lists tell the same pages, in the same order.
func sameAll(a, b []api.Found) bool {
	return slices.EqualFunc(a, b, sameFound)
}

// sameBlock tells whether two blocks have the same fields.
func sameBlock(a, b api.Block) bool {
	return slices.Equal(a.Pages, b.Pages) && a.Next == b.Next && a.Erases == b.Erases && a.Bad == b.Bad
}

// sameChip tells whether two chips have the same fields.
func sameChip(a, b api.Chip) bool {
	return slices.EqualFunc(a.Blocks, b.Blocks, sameBlock) && a.Broken == b.Broken && a.Off == b.Off && a.Ops == b.Ops
}

// whole is a copy of c with what stands behind the lengths of its lists, too, up to their capacities.
func whole(c api.Chip) api.Chip {
	c.Blocks = slices.Clone(c.Blocks[:cap(c.Blocks)])
	for b, block := range c.Blocks {
		c.Blocks[b].Pages = slices.Clone(block.Pages[:cap(block.Pages)])
	}
	return c
}

// page is a Valid page with a record; it panics, if there is none: then the test itself is wrong.
func page(r api.Record) api.Page {
	p, errno := look.Make(api.Write{Data: "of " + strconv.Itoa(r.Seq%1000), Record: r})
	if errno != api.OK {
		panic(errno)
	}
	return p
}

// dataRecord is a record of the kind Data.
func dataRecord(seq int, keys ...int) api.Record {
	return api.Record{Kind: api.Data, Seq: seq, Keys: keys}
}

// changeRecord is a record of the kind Change, of one sector.
func changeRecord(seq, key, value int) api.Record {
	return api.Record{Kind: api.Change, Seq: seq, Keys: []int{key}, Values: []int{value}}
}

// valid is a Valid page of a Seq.
func valid(seq int) api.Page { return page(dataRecord(seq, seq%api.MaxSectors)) }

// left is a page that has a right tag but is not Written: an erased one.
func left(seq int) api.Page {
	p := valid(seq)
	p.Written = false
	return p
}

// corrupt is a page whose tag is one of other data.
func corrupt(seq int) api.Page {
	p := valid(seq)
	p.Data += "!"
	return p
}

// dust is a page that is Written, and has no tag at all.
func dust() api.Page { return api.Page{Written: true} }

// block is a block of pages; whatever its Next is, all of them are there.
func block(pages ...api.Page) api.Block { return api.Block{Pages: pages} }

// chip is a chip of blocks.
func chip(blocks ...api.Block) api.Chip { return api.Chip{Blocks: blocks} }

// grid is a chip of so many blocks of so many pages, each with its own Seq, told by seqOf.
func grid(blocks, pages int, seqOf func(b, p int) int) api.Chip {
	c := chip(make([]api.Block, blocks)...)
	for b := range c.Blocks {
		c.Blocks[b].Pages = make([]api.Page, pages)
		for p := range pages {
			c.Blocks[b].Pages[p] = valid(seqOf(b, p))
		}
	}
	return c
}

// unlike is a chip that layer 5 does not make: blocks of 0, 1, 3, 16, 17 and 40 pages, Bad ones among them, with Nexts beyond all edges.
func unlike() api.Chip {
	c := grid(7, 40, func(b, p int) int { return (b*40 + p) * 37 % 101 })
	for b, n := range []int{0, 1, 3, 16, 17, 40, 2} {
		c.Blocks[b].Pages = c.Blocks[b].Pages[:n:n]
		c.Blocks[b].Next = []int{0, -1, math.MinInt, 99, math.MaxInt, 3, 0}[b]
		c.Blocks[b].Bad = b%2 == 1
	}
	c.Blocks[3].Pages[4], c.Blocks[3].Pages[5], c.Blocks[3].Pages[6] = left(1), corrupt(2), dust()
	c.Blocks[6].Pages[0] = api.Page{}
	c.Ops = -7
	return c
}

// roomy is a chip with Valid pages and blocks behind the lengths of its lists, and a list of pages that two blocks have.
func roomy() api.Chip {
	pages := []api.Page{valid(9), {}, valid(2), valid(1), valid(0)}
	blocks := []api.Block{block(pages[:3]...), block(), block(pages[:2]...), block(valid(4), valid(0)), {Next: 9, Bad: true}}
	return chip(blocks[:3]...)
}

// mixed is a full chip of pages of all kinds, whose Seqs go up and down, many of them more than once.
func mixed() api.Chip {
	c := grid(api.MaxBlocks, api.MaxPages, func(b, p int) int { return (b*api.MaxPages + p) * 211 % 89 })
	for b := range c.Blocks {
		for p := range c.Blocks[b].Pages {
			switch (b + 3*p) % 7 {
			case 0:
				c.Blocks[b].Pages[p] = api.Page{}
			case 1:
				c.Blocks[b].Pages[p] = left(p)
			case 2:
				c.Blocks[b].Pages[p] = corrupt(b)
			case 3:
				c.Blocks[b].Pages[p] = dust()
			case 4:
				c.Blocks[b].Pages[p] = page(changeRecord(p*b%23, p, b-1))
			}
		}
	}
	return c
}

// made is a chip that layer 5 made.
func made() api.Chip {
	c, _ := nand.New(3, 4, []int{1})
	for p, seq := range []int{8, 3, 5} {
		c, _ = nand.Program(c, 2, p, valid(seq), api.Fate{})
	}
	c, _ = nand.Program(c, 0, 0, valid(4), api.Fate{Kind: api.Fail, Data: "x", Tag: "y"})
	return c
}

// someChips are made ones and ones that layer 5 does not make, each of them also Off, Broken, and both.
func someChips() []api.Chip {
	var out []api.Chip
	for _, maker := range []func() api.Chip{
		func() api.Chip { return chip() },
		func() api.Chip { return chip(api.Block{}) },
		func() api.Chip { return chip(make([]api.Block, 40)...) },
		func() api.Chip { return grid(40, 3, func(b, p int) int { return 200 - 3*b - p }) },
		func() api.Chip { return grid(32, 16, func(b, p int) int { return b ^ p }) },
		func() api.Chip { return grid(33, 17, func(b, p int) int { return 7 }) },
		func() api.Chip { return grid(1, 1<<12, func(b, p int) int { return 1<<12 - p }) },
		made, unlike, roomy, mixed,
	} {
		for _, off := range []bool{false, true} {
			for _, broken := range []bool{false, true} {
				c := maker()
				c.Off, c.Broken = off, broken
				out = append(out, c)
			}
		}
	}
	return out
}

// checkPlace holds what Place answers against what is wanted.
func checkPlace(t *testing.T, b, p, want int) {
	t.Helper()
	if got := Place(b, p); got != want {
		t.Errorf("Place(%d, %d) = %d, want %d", b, p, got, want)
	}
}

// F1: all blocks and pages that there may be are counted, one by one.
func TestPlaceCounts(t *testing.T) {
	next := 0
	for b := range 32 {
		for p := range 16 {
			checkPlace(t, b, p, next)
			next++
		}
	}
	if next != 512 {
		t.Errorf("%d places", next)
	}
}

// F1: the edges, written out, and all that is beyond them, alone and together.
func TestPlaceAtItsEdges(t *testing.T) {
	checkPlace(t, 0, 0, 0)
	checkPlace(t, 0, 15, 15)
	checkPlace(t, 1, 0, 16)
	checkPlace(t, 31, 0, 496)
	checkPlace(t, 31, 15, 511)
	wrongBlocks := []int{-1, -2, 32, 33, 1 << 32, math.MinInt, math.MinInt + 1, math.MaxInt, math.MaxInt/16 + 1, math.MinInt / 16}
	wrongPages := []int{-1, -16, 16, 17, 511, 1 << 32, math.MinInt, math.MaxInt}
	for _, b := range wrongBlocks {
		for _, p := range []int{0, 1, 15} {
			checkPlace(t, b, p, -1)
		}
		for _, p := range wrongPages {
			checkPlace(t, b, p, -1)
		}
	}
	for _, p := range wrongPages {
		for _, b := range []int{0, 1, 31} {
			checkPlace(t, b, p, -1)
		}
	}
}

// checkPage wants that c has a page at a place.
func checkPage(t *testing.T, c api.Chip, place int, want api.Page) {
	t.Helper()
	if got, ok := Page(c, place); got != want || !ok {
		t.Errorf("Page at %d is %+v, %t, want %+v", place, got, ok, want)
	}
}

// checkNoPage wants that c has no page at some places.
func checkNoPage(t *testing.T, c api.Chip, places ...int) {
	t.Helper()
	for _, place := range places {
		if got, ok := Page(c, place); ok || got != (api.Page{}) {
			t.Errorf("Page at %d is %+v, %t, want none", place, got, ok)
		}
	}
}

// F3: pages of all kinds come as they are; the edges of blocks of unlike counts of pages.
func TestPage(t *testing.T) {
	c := chip(block(valid(7), api.Page{}, corrupt(3)), block(), block(left(5)), api.Block{Pages: []api.Page{dust(), valid(1)}, Bad: true})
	checkPage(t, c, 0, valid(7))
	checkPage(t, c, 1, api.Page{})
	checkPage(t, c, 2, corrupt(3))
	checkNoPage(t, c, 3, 15, 16, 17, 31)
	checkPage(t, c, 32, left(5))
	checkNoPage(t, c, 33, 47)
	checkPage(t, c, 48, dust())
	checkPage(t, c, 49, valid(1))
	checkNoPage(t, c, 50, 63, 64, 65, 511, 512)
}

// F3: places below 0, beyond all that there may be, and at the ends of int, of all chips.
func TestPageOfWrongPlaces(t *testing.T) {
	for _, c := range someChips() {
		checkNoPage(t, c, -1, -2, -15, -16, -17, -512, math.MinInt, math.MinInt+1, math.MinInt+15)
		checkNoPage(t, c, 512, 513, 527, 528, 1024, 1<<32, 1<<40, math.MaxInt-15, math.MaxInt-1, math.MaxInt)
	}
}

// F3: a page beyond the sixteenth of a block, and a block beyond the 32nd, has no place, and takes none from another one.
func TestPageBeyondTheLimits(t *testing.T) {
	long := grid(2, 17, func(b, p int) int { return 100*b + p })
	checkPage(t, long, 15, valid(15))
	checkPage(t, long, 16, valid(100))
	checkPage(t, long, 31, valid(115))
	checkNoPage(t, long, 32)
	alone := grid(1, 40, func(b, p int) int { return p })
	checkPage(t, alone, 15, valid(15))
	checkNoPage(t, alone, 16, 17, 31, 32, 39)
	wide := grid(40, 16, func(b, p int) int { return 16*b + p })
	checkPage(t, wide, 496, valid(496))
	checkPage(t, wide, 511, valid(511))
	checkNoPage(t, wide, 512, 527, 528, 639)
}

// F3: what stands behind the lengths of lists is no page and no block.
func TestPageBehindTheLengths(t *testing.T) {
	checkPage(t, roomy(), 2, valid(2))
	checkNoPage(t, roomy(), 3, 4, 16, 34, 48, 49, 64)
	checkPage(t, roomy(), 33, api.Page{})
}

// F1 and F3: each place is that of the block and the page that Place numbers so, in all chips.
func TestPageIsAtItsPlace(t *testing.T) {
	for _, c := range someChips() {
		for b := range 32 {
			for p := range 16 {
				if b < len(c.Blocks) && p < len(c.Blocks[b].Pages) {
					checkPage(t, c, Place(b, p), c.Blocks[b].Pages[p])
				} else {
					checkNoPage(t, c, Place(b, p))
				}
			}
		}
	}
}

// checkAll holds what All answers against what is wanted.
func checkAll(t *testing.T, why string, c api.Chip, want ...api.Found) {
	t.Helper()
	if got := All(c); !sameAll(got, want) {
		t.Errorf("%s: All = %v, want %v", why, got, want)
	}
}

// at is a page of a Seq at a place, as it is told.
func at(place, seq int) api.Found {
	return api.Found{Place: place, Record: dataRecord(seq, seq%api.MaxSectors)}
}

// F2: the chapter's example, in one block and in two.
func TestAllOfTheExample(t *testing.T) {
	checkAll(t, "one block", chip(block(valid(7), valid(3))), at(1, 3), at(0, 7))
	checkAll(t, "two blocks", chip(block(valid(7)), block(valid(3))), at(16, 3), at(0, 7))
	c, _ := nand.New(2, 4, nil)
	c, _ = nand.Program(c, 1, 0, valid(7), api.Fate{})
	c, _ = nand.Program(c, 1, 1, valid(3), api.Fate{})
	checkAll(t, "a chip of layer 5", c, at(17, 3), at(16, 7))
}

// F2: chips that have nothing to tell.
func TestAllOfNothing(t *testing.T) {
	checkAll(t, "no blocks", api.Chip{})
	checkAll(t, "an empty list of blocks", chip())
	checkAll(t, "blocks without pages", chip(make([]api.Block, 40)...))
	for _, size := range [][2]int{{1, 1}, {2, 4}, {32, 16}} {
		c, _ := nand.New(size[0], size[1], nil)
		checkAll(t, "a new chip", c)
	}
	checkAll(t, "erased and corrupt pages", chip(block(api.Page{}, left(3), corrupt(4), dust()), block(api.Page{Tag: "x"}, api.Page{Written: true, Data: "a", Tag: "b"})))
}

// F2: erased and corrupt pages are passed over, and the others keep their places; a record is told with all its fields.
func TestAllPassesOver(t *testing.T) {
	eight := api.Record{Kind: api.Change, Seq: 6, Keys: []int{0, 1, 2, 3, 4, 61, 62, 63}, Values: []int{-1, 0, 1, 126, 127, 128, 510, 511}}
	last := dataRecord(api.MaxNumber, 5, 9, 63)
	c := chip(block(api.Page{}, valid(2), corrupt(0), page(last)), block(), block(left(0), dust(), page(eight), api.Page{}, page(dataRecord(0, 0))))
	checkAll(t, "all kinds", c,
		api.Found{Place: 36, Record: dataRecord(0, 0)}, at(1, 2), api.Found{Place: 34, Record: eight}, api.Found{Place: 3, Record: last})
}

// F2: the same Seq in one block and in several: by their places; between others, too.
func TestAllOfTheSameSeqs(t *testing.T) {
	checkAll(t, "one block", chip(block(valid(4), valid(4), valid(4))), at(0, 4), at(1, 4), at(2, 4))
	checkAll(t, "three blocks", chip(block(valid(4)), block(valid(4)), block(valid(4))), at(0, 4), at(16, 4), at(32, 4))
	checkAll(t, "both", chip(block(valid(9), valid(4)), block(valid(4), valid(0), valid(9)), block(valid(4), valid(9))),
		at(17, 0), at(1, 4), at(16, 4), at(32, 4), at(0, 9), at(18, 9), at(33, 9))
	// Neither the kind nor the keys are a third key of the order.
	change, many := changeRecord(4, 0, -1), dataRecord(4, 0, 1, 2)
	checkAll(t, "unlike records", chip(block(page(change), page(many), valid(4), page(change))),
		api.Found{Place: 0, Record: change}, api.Found{Place: 1, Record: many}, at(2, 4), api.Found{Place: 3, Record: change})
}

// F2: a full chip of the same Seq, of Seqs that rise, and of Seqs that fall, up to the greatest.
func TestAllOfFullChips(t *testing.T) {
	var same, rise, fall, greatest []api.Found
	for place := range 512 {
		same = append(same, at(place, 33))
		rise = append(rise, at(place, place))
		fall = append(fall, at(511-place, place))
		greatest = append(greatest, at(511-place, api.MaxNumber-511+place))
	}
	checkAll(t, "the same", grid(32, 16, func(b, p int) int { return 33 }), same...)
	checkAll(t, "rising", grid(32, 16, func(b, p int) int { return 16*b + p }), rise...)
	checkAll(t, "falling", grid(32, 16, func(b, p int) int { return 511 - 16*b - p }), fall...)
	checkAll(t, "the greatest", grid(32, 16, func(b, p int) int { return api.MaxNumber - 16*b - p }), greatest...)
}

// F2: Seqs are ordered as numbers, over all that they may be.
func TestAllOfFarSeqs(t *testing.T) {
	c := chip(block(valid(api.MaxNumber), valid(0), valid(1<<32), valid(1<<31), valid(1), valid(10), valid(9), valid(1<<32+1)))
	checkAll(t, "far Seqs", c, at(1, 0), at(4, 1), at(6, 9), at(5, 10), at(3, 1<<31), at(2, 1<<32), at(7, 1<<32+1), at(0, api.MaxNumber))
}

// F2: whether the chip is Off or Broken, a block is Bad, and what its counts are, makes no difference.
func TestAllLooksAtPagesAlone(t *testing.T) {
	for _, maker := range []func() api.Chip{made, unlike, roomy, mixed} {
		want := All(maker())
		if len(want) == 0 {
			t.Error("nothing is told")
		}
		for i := range 16 {
			c := maker()
			c.Off, c.Broken, c.Ops = i&1 != 0, i&2 != 0, i*1000
			for b := range c.Blocks {
				c.Blocks[b].Bad = i&4 != 0
				c.Blocks[b].Next = i&8*b - 5
				c.Blocks[b].Erases = i - 8
			}
			checkAll(t, "other counts", c, want...)
		}
	}
}

// F2: what has no place is not told: pages beyond the sixteenth, blocks beyond the 32nd, and what stands behind the lengths.
func TestAllBeyondTheLimits(t *testing.T) {
	var first, wide []api.Found
	for p := range 16 {
		first = append(first, at(15-p, 85+p))
	}
	for b := range 32 {
		wide = append(wide, at(16*(31-b), 69+b))
	}
	for _, pages := range []int{16, 17, 32, 40} {
		checkAll(t, "a long block", grid(1, pages, func(b, p int) int { return 100 - p }), first...)
	}
	for _, blocks := range []int{32, 33, 64} {
		checkAll(t, "many blocks", grid(blocks, 1, func(b, p int) int { return 100 - b }), wide...)
	}
	long := grid(2, 17, func(b, p int) int { return 17*b + p })
	if got := All(long); len(got) != 32 || !sameFound(got[15], at(15, 15)) || !sameFound(got[16], at(16, 17)) {
		t.Errorf("two long blocks: %v", got)
	}
	checkAll(t, "behind the lengths", roomy(), at(2, 2), at(0, 9), at(32, 9))
}

// wanted is what F2 wants of a chip: of each Seq in turn, from the least on, all places in turn.
func wanted(c api.Chip) []api.Found {
	var out []api.Found
	for least := -1; ; {
		next := math.MaxInt
		eachValid(c, func(place int, r api.Record) {
			if r.Seq > least {
				next = min(next, r.Seq)
			}
		})
		if next == math.MaxInt {
			return out
		}
		least = next
		eachValid(c, func(place int, r api.Record) {
			if r.Seq == least {
				out = append(out, api.Found{Place: place, Record: r})
			}
		})
	}
}

// eachValid calls f with the places and the records of the Valid pages, by their places.
func eachValid(c api.Chip, f func(place int, r api.Record)) {
	for b := 0; b < 32 && b < len(c.Blocks); b++ {
		for p := 0; p < 16 && p < len(c.Blocks[b].Pages); p++ {
			if kind, r := look.Look(c.Blocks[b].Pages[p]); kind == 1 {
				f(16*b+p, r)
			}
		}
	}
}

// F2: all chips, held against the reference.
func TestAll(t *testing.T) {
	for i, c := range someChips() {
		checkAll(t, "chip "+strconv.Itoa(i), c, wanted(c)...)
	}
}

// The iterator tells places rising, and ends wherever it is left.
func TestPagesMayBeLeft(t *testing.T) {
	for _, c := range []api.Chip{chip(), made(), unlike(), roomy(), mixed()} {
		var places []int
		for place, p := range pages(c) {
			checkPage(t, c, place, p)
			places = append(places, place)
		}
		if !slices.IsSorted(places) {
			t.Errorf("places %v", places)
		}
		for stop := range places {
			var some []int
			for place := range pages(c) {
				some = append(some, place)
				if len(some) == stop+1 {
					break
				}
			}
			if !slices.Equal(some, places[:stop+1]) {
				t.Errorf("left behind %d: %v", stop, some)
			}
		}
	}
}

// R3: no chip, block, page or list that is handed in has changed behind any call, nor what stands behind its length.
func TestChipsAreLeft(t *testing.T) {
	for i, c := range someChips() {
		head, before := c, whole(c)
		All(c)
		for _, place := range []int{math.MinInt, -1, 0, 1, 15, 16, 33, 511, 512, math.MaxInt} {
			Page(c, place)
		}
		if !sameChip(whole(c), before) || len(c.Blocks) != len(head.Blocks) {
			t.Errorf("chip %d has changed", i)
		}
	}
}

// R4: whoever writes into an answer changes neither the chip nor a later answer, nor another list of the same one.
func TestAnswersAreApart(t *testing.T) {
	for i, c := range someChips() {
		before, want := whole(c), All(c)
		// Some of a long list stand for all: each is held against the whole.
		for n := range min(len(want), 20) {
			got := All(c)
			for k := range got[n].Record.Keys {
				got[n].Record.Keys[k] = -9
			}
			_ = append(got[n].Record.Keys, -9)
			if !slices.Equal(got[n].Record.Values, want[n].Record.Values) {
				t.Fatalf("chip %d: Values have changed with Keys", i)
			}
			if !sameAll(slices.Delete(got, n, n+1), slices.Concat(want[:n], want[n+1:])) {
				t.Fatalf("chip %d: another one has changed with %d", i, n)
			}
		}
		if !sameChip(whole(c), before) || !sameAll(All(c), want) {
			t.Errorf("chip %d tells otherwise", i)
		}
	}
}

// without is what is told, but for some places.
func without(l []api.Found, gone func(place int) bool) []api.Found {
	return slices.DeleteFunc(slices.Clone(l), func(f api.Found) bool { return gone(f.Place) })
}

// checkTold wants that what is told of each page is its record, and of no page twice.
func checkTold(t *testing.T, c api.Chip) {
	t.Helper()
	seen := map[int]bool{}
	for _, f := range All(c) {
		p, ok := Page(c, f.Place)
		kind, r := look.Look(p)
		if !ok || kind != api.Valid || !sameRecord(r, f.Record) || seen[f.Place] {
			t.Errorf("%v is told of %+v, %t (again: %t)", f, p, ok, seen[f.Place])
		}
		seen[f.Place] = true
	}
}

// F4: what is told of a page is its record.
func TestToldIsTheRecord(t *testing.T) {
	for _, c := range someChips() {
		checkTold(t, c)
	}
}

// checkProgram programs a page, and wants that one more is told, with the record r, or none; all others as they were.
func checkProgram(t *testing.T, c api.Chip, b, p int, x api.Page, f api.Fate, isValid bool, r api.Record) api.Chip {
	t.Helper()
	before := All(c)
	c, errno := nand.Program(c, b, p, x, f)
	if errno == api.ErrArg {
		t.Fatalf("Program at %d, %d: %d", b, p, errno)
	}
	after := All(c)
	place := 16*b + p
	if !sameAll(without(after, func(at int) bool { return at == place }), before) {
		t.Errorf("behind a program at %d: %v, ahead of it %v", place, after, before)
	}
	told := slices.IndexFunc(after, func(f api.Found) bool { return f.Place == place })
	if isValid != (told >= 0) || isValid && !sameRecord(after[told].Record, r) {
		t.Errorf("a program at %d: told at %d of %v, want %t, %v", place, told, after, isValid, r)
	}
	checkTold(t, c)
	return c
}

// F4: each page that is programmed, by each fate, with a Valid page and without, at each Seq among the others.
func TestOnePageMore(t *testing.T) {
	for _, seq := range []int{0, 3, 4, 5, 6, 8, 9, api.MaxNumber} {
		for _, r := range []api.Record{dataRecord(seq, 1, 2), changeRecord(seq, 63, 511)} {
			x := page(r)
			c := made()
			checkProgram(t, c, 2, 3, x, api.Fate{}, true, r)
			checkProgram(t, c, 2, 3, corrupt(seq), api.Fate{}, false, r)
			checkProgram(t, c, 2, 3, api.Page{}, api.Fate{}, false, r)
			for _, kind := range []int{api.Fail, api.Cut} {
				checkProgram(t, c, 2, 3, x, api.Fate{Kind: kind}, false, r)
				checkProgram(t, c, 2, 3, x, api.Fate{Kind: kind, Data: x.Data, Tag: x.Tag[1:]}, false, r)
				checkProgram(t, c, 2, 3, dust(), api.Fate{Kind: kind, Data: x.Data, Tag: x.Tag}, true, r)
			}
		}
	}
}

// F4: a chip is filled, page by page, with Valid ones and others; then it is erased, block by block.
func TestFilledAndErased(t *testing.T) {
	c, _ := nand.New(4, 5, nil)
	for p := range 5 {
		for b := range 4 {
			r := dataRecord((5*b+p)*13%8, b, 4+p)
			switch (b + p) % 4 {
			case 0:
				c = checkProgram(t, c, b, p, dust(), api.Fate{}, false, r)
			default:
				c = checkProgram(t, c, b, p, page(r), api.Fate{}, true, r)
			}
		}
	}
	for _, b := range []int{2, 0, 3, 1} {
		c = checkErase(t, c, b, api.Fate{}, 5)
	}
	checkAll(t, "all is erased", c)
}

// checkErase erases a block, and wants that its first n pages are told no more, and all others in the order in which they were.
func checkErase(t *testing.T, c api.Chip, b int, f api.Fate, n int) api.Chip {
	t.Helper()
	before := All(c)
	c, errno := nand.Erase(c, b, f)
	if errno == api.ErrArg {
		t.Fatalf("Erase of %d: %d", b, errno)
	}
	checkAll(t, "behind an erase", c, without(before, func(at int) bool { return at >= 16*b && at < 16*b+n })...)
	checkTold(t, c)
	return c
}

// F4: erases by all fates; of one that is cut some pages are still told, of one that failed all.
func TestErasedByFates(t *testing.T) {
	c := grid(3, 6, func(b, p int) int { return (6*b + p) * 5 % 7 })
	for b := range 3 {
		checkErase(t, c, b, api.Fate{}, 6)
		checkErase(t, c, b, api.Fate{Kind: api.Fail}, 0)
		for n := range 7 {
			checkErase(t, c, b, api.Fate{Kind: api.Cut, N: n}, n)
		}
		checkErase(t, c, b, api.Fate{Kind: api.Cut, N: -1}, 0)
		checkErase(t, c, b, api.Fate{Kind: api.Cut, N: 99}, 6)
	}
}

// F4: what layer 5 refuses changes nothing that is told.
func TestRefusedChangesNothing(t *testing.T) {
	c := made()
	want := All(c)
	off := c
	off.Off = true
	for _, one := range []api.Chip{c, off} {
		for _, p := range []int{-1, 0, 2, 4} {
			behind, _ := nand.Program(one, 2, p, valid(1), api.Fate{})
			checkAll(t, "a refused program", behind, want...)
		}
		for _, b := range []int{-1, 0, 1, 3} {
			behind, _ := nand.Erase(one, b, api.Fate{})
			checkAll(t, "a refused erase", behind, want...)
		}
	}
}
