package victim

import (
	"math"
	"reflect"
	"slices"
	"testing"

	"clinker/api"
	"clinker/live"
	"clinker/look"
	"clinker/nand"
	"clinker/replay"
	"clinker/states"
)

// pages are n pages, the first written of which are Written.
func pages(n, written int) []api.Page {
	out := make([]api.Page, n)
	for p := range written {
		out[p] = api.Page{Written: true, Data: "d", Tag: "t"}
	}
	return out
}

// block is a block of n pages, the first written of which are Written.
func block(n, written, erases int) api.Block {
	return api.Block{Pages: pages(n, written), Next: written, Erases: erases}
}

// closed are full blocks of four pages, with these Erases.
func closed(erases ...int) []api.Block {
	var out []api.Block
	for _, n := range erases {
		out = append(out, block(4, 4, n))
	}
	return out
}

// bad is a block, Bad.
func bad(b api.Block) api.Block {
	b.Bad = true
	return b
}

// chip is a chip of these blocks.
func chip(blocks ...api.Block) api.Chip { return api.Chip{Blocks: blocks} }

// wanting is a table by which so many pages of each block are wanted: by Map, by By and by both, in turn.
func wanting(counts ...int) api.Table {
	var t api.Table
	for b, n := range counts {
		for p := range n {
			place := 16*b + p
			m, by := place, place
			switch p % 3 {
			case 0:
				by = -1
			case 1:
				m = -1
			}
			t.Map, t.By = append(t.Map, m), append(t.By, by)
		}
	}
	return t
}

// edges are numbers at the ends of int, of MaxBlocks and around 0.
func edges() []int {
	return []int{math.MinInt, math.MinInt + 1, -1 << 32, -17, -2, -1, 0, 1, 2, 3, 7, 31, 32, 33, 1 << 32, 1<<32 + 1, 1 << 40, math.MaxInt - 1, math.MaxInt}
}

// unlike is a chip that no call of layer 5 makes: blocks of unlike counts of pages, with Nexts and Erases at all edges.
func unlike() api.Chip {
	return chip(
		api.Block{},
		api.Block{Next: 1, Erases: -40},
		api.Block{Next: -1, Erases: -9},
		block(1, 1, math.MaxInt),
		api.Block{Pages: pages(3, 2), Next: 1, Erases: -3},
		api.Block{Pages: pages(3, 1), Next: math.MinInt, Erases: math.MinInt},
		api.Block{Pages: pages(3, 1), Next: math.MaxInt, Erases: math.MaxInt},
		block(20, 20, 5),
		block(20, 17, 5),
		bad(block(2, 2, math.MinInt)),
		bad(block(2, 1, 3)),
		block(2, 0, 0),
		block(2, 2, math.MinInt),
		block(16, 16, -3),
		api.Block{Pages: pages(2, 0), Next: 2, Erases: -3},
	)
}

// great is a chip of far more blocks than MaxBlocks, of more pages than MaxPages.
func great() api.Chip {
	var c api.Chip
	for b := range 150 {
		x := block(b%23, b*7%(b%23+1), b*b%97-20)
		x.Bad = b%11 == 5
		c.Blocks = append(c.Blocks, x)
	}
	return c
}

// roomy is a chip with blocks and pages behind the lengths of its lists, that would be told ahead of all others.
func roomy() api.Chip {
	blocks := append(closed(7, 5, 9), block(4, 4, 1), block(4, 4, 0))
	blocks[1].Pages = append(pages(4, 4), pages(4, 4)...)[:4]
	return chip(blocks[:3]...)
}

// someChips are chips of all kinds, some of which are Off and Broken.
func someChips() []api.Chip {
	out := []api.Chip{
		{}, chip(), chip(api.Block{}), chip(bad(block(2, 1, 1)), bad(block(2, 0, 0))), unlike(), great(), roomy(),
		chip(closed(3, 1, 2, 1)...), chip(block(4, 0, 1), block(4, 2, 1), block(4, 4, 1), bad(block(4, 4, 1))),
	}
	for _, c := range []api.Chip{unlike(), roomy(), chip(closed(3, 1, 2, 1)...)} {
		c.Off, c.Broken, c.Ops = true, true, math.MinInt
		out = append(out, c)
	}
	return out
}

// someTables are tables of all kinds, also with lists of unlike lengths, and room behind them.
func someTables() []api.Table {
	far := wanting(0, 1, 2, 1, 3, 2, 1, 16, 15, 0, 0, 0, 2, 15)
	far.Map, far.By = append(far.Map, edges()...), append(edges(), far.By...)
	short := wanting(4, 3, 3, 2)
	short.Map, short.By = short.Map[:9], short.By[2:5]
	var all []int
	for place := range 600 {
		all = append(all, place)
	}
	return []api.Table{
		{}, replay.New(64), wanting(4, 3, 2, 1), wanting(0, 1, 2, 3), wanting(2, 2, 2, 2), far, short,
		{Map: all}, {By: all}, {Map: all[5:40:90], By: edges()}, {Map: slices.Repeat([]int{5}, 40), By: []int{16, -5, 16}},
	}
}

// stateByWords is what K1 asks of a block: whether it is Retired, Open, Closed or Free.
func stateByWords(c api.Chip, open, b int) int {
	if b < 0 || len(c.Blocks) <= b || c.Blocks[b].Bad {
		return 3
	}
	x := c.Blocks[b]
	if open == b && 0 <= x.Next && x.Next < len(x.Pages) {
		return 1
	}
	if x.Next != 0 || slices.ContainsFunc(x.Pages, func(p api.Page) bool { return p.Written }) {
		return 2
	}
	return 0
}

// countByWords is how many of the 16 places of a block either list of the table has.
func countByWords(t api.Table, b int) int {
	count := 0
	for place := 16 * b; place < 16*b+16; place++ {
		if slices.Contains(t.Map, place) || slices.Contains(t.By, place) {
			count++
		}
	}
	return count
}

// victimByWords is L1, narrowed down word by word.
func victimByWords(c api.Chip, t api.Table, open int) int {
	var left []int
	for b := range c.Blocks {
		if b < 32 && stateByWords(c, open, b) == 2 && countByWords(t, b) < len(c.Blocks[b].Pages) {
			left = append(left, b)
		}
	}
	for _, number := range []func(b int) int{
		func(b int) int { return countByWords(t, b) },
		func(b int) int { return c.Blocks[b].Erases },
	} {
		var fewest []int
		for _, b := range left {
			if !slices.ContainsFunc(left, func(other int) bool { return number(other) < number(b) }) {
				fewest = append(fewest, b)
			}
		}
		left = fewest
	}
	if len(left) == 0 {
		return -1
	}
	return left[0]
}

// checkVictim holds what Victim answers against the block that is wanted.
func checkVictim(t *testing.T, c api.Chip, x api.Table, open, want int) {
	t.Helper()
	if got := Victim(c, x, open); got != want {
		t.Fatalf("Victim(%+v, %v, %d) = %d, want %d", c, x, open, got, want)
	}
}

// checkCold holds what Cold answers against the block that is wanted.
func checkCold(t *testing.T, c api.Chip, open, most, want int) {
	t.Helper()
	if got := Cold(c, open, most); got != want {
		t.Fatalf("Cold(%+v, %d, %d) = %d, want %d", c, open, most, got, want)
	}
}

// checkRest holds what Rest answers against the count that is wanted.
func checkRest(t *testing.T, c api.Chip, open, want int) {
	t.Helper()
	if got := Rest(c, open); got != want {
		t.Fatalf("Rest(%+v, %d) = %d, want %d", c, open, got, want)
	}
}

// L1: the chapter's example.
func TestVictimOfTheExample(t *testing.T) {
	checkVictim(t, chip(closed(0, 0)...), wanting(3, 1), -1, 1)
}

// L1: the fewest wanted pages, wherever that block stands, and whatever its Erases.
func TestVictimByWantedPages(t *testing.T) {
	for n := 1; n <= 8; n++ {
		for few := range n {
			for wanted := range 3 {
				counts, erases := slices.Repeat([]int{3}, n), slices.Repeat([]int{-5}, n)
				counts[few], erases[few] = wanted, 900
				checkVictim(t, chip(closed(erases...)...), wanting(counts...), -1, few)
			}
		}
	}
	checkVictim(t, chip(closed(9, 8, 7, 6)...), wanting(3, 1, 0, 2), -1, 2)
	checkVictim(t, chip(closed(6, 7, 8, 9)...), wanting(1, 3, 2, 3), -1, 0)
}

// L1: the last block that may be one, block 31, is told, too.
func TestVictimIsTheLastBlock(t *testing.T) {
	counts := slices.Repeat([]int{2}, 32)
	counts[31] = 1
	checkVictim(t, chip(slices.Repeat(closed(1), 32)...), wanting(counts...), -1, 31)
}

// L1: a page that several sectors have counts once, and it counts by Map and by By alike.
func TestVictimCountsPages(t *testing.T) {
	c := chip(closed(0, 0)...)
	checkVictim(t, c, api.Table{Map: []int{0, 0, 0, 0, 16, 17}}, -1, 0)
	checkVictim(t, c, api.Table{By: []int{16, 16, 16, 0, 1, 16}}, -1, 1)
	checkVictim(t, c, api.Table{Map: []int{0, 16, 1}, By: []int{0, 18, 1}}, -1, 0)
	checkVictim(t, c, api.Table{Map: []int{0, 16}, By: []int{0, 18}}, -1, 0)
	checkVictim(t, c, api.Table{Map: []int{0, 16}, By: []int{1, 16}}, -1, 1)
}

// L1: of the same count the fewest Erases, wherever that block stands, also below 0 and at the ends of int.
func TestVictimByErases(t *testing.T) {
	for _, x := range []struct {
		want   int
		erases []int
	}{
		{0, []int{1, 2, 3}}, {2, []int{3, 2, 1}}, {1, []int{2, 1, 3}}, {3, []int{10, 9, 8, 0}}, {1, []int{0, -1}}, {2, []int{-1, 0, -7, -6}},
		{1, []int{math.MaxInt, math.MinInt}}, {0, []int{math.MinInt, math.MaxInt}}, {1, []int{math.MinInt + 1, math.MinInt}},
		{1, []int{math.MaxInt, math.MaxInt - 1}}, {2, []int{1, math.MaxInt, math.MinInt}}, {1, []int{1 << 40, 1 << 32}},
	} {
		for wanted := range 4 {
			checkVictim(t, chip(closed(x.erases...)...), wanting(slices.Repeat([]int{wanted}, len(x.erases))...), -1, x.want)
		}
	}
	// Only those with the fewest wanted pages are compared by their Erases.
	checkVictim(t, chip(closed(-9, 5, 4, -8)...), wanting(2, 1, 1, 2), -1, 2)
}

// L1: of the same count and the same Erases the first one.
func TestVictimIsTheFirstOne(t *testing.T) {
	for _, n := range edges() {
		for wanted := range 4 {
			checkVictim(t, chip(closed(n, n, n)...), wanting(wanted, wanted, wanted), -1, 0)
		}
	}
	checkVictim(t, chip(closed(5, 3, 4, 3, 3)...), wanting(1, 1, 1, 1, 1), -1, 1)
	checkVictim(t, chip(closed(3, 3, 3, 3)...), wanting(3, 2, 3, 2), -1, 1)
}

// L1: a Closed block is none, if all its pages are wanted, or more of its places than it has pages; one less, and it is.
func TestVictimHasUnwantedPages(t *testing.T) {
	for n := 1; n <= 16; n++ {
		c := chip(block(n, n, 0))
		for wanted := 0; wanted <= 16; wanted++ {
			want := -1
			if wanted < n {
				want = 0
			}
			checkVictim(t, c, wanting(wanted), -1, want)
		}
	}
	// Of a block with more pages than places some page is always unwanted.
	checkVictim(t, chip(block(17, 17, 0)), wanting(16), -1, 0)
	// Pages that were not written are unwanted, too.
	checkVictim(t, chip(block(4, 2, 0)), wanting(2), -1, 0)
	checkVictim(t, chip(block(4, 2, 0)), wanting(4), -1, -1)
	// A block with fewer wanted pages than the victim, but no other ones, is passed over.
	checkVictim(t, chip(block(1, 1, 0), block(4, 4, 0)), wanting(1, 2), -1, 1)
	checkVictim(t, chip(closed(0, 9, 0)...), wanting(4, 3, 7), -1, 1)
}

// L1: a Closed block without pages is none: not fewer than 0 pages are wanted.
func TestVictimHasPages(t *testing.T) {
	for _, next := range []int{math.MinInt, -1, 1, 16, math.MaxInt} {
		bare := api.Block{Next: next, Erases: -50}
		checkVictim(t, chip(bare), api.Table{}, -1, -1)
		checkVictim(t, chip(bare), wanting(2), 0, -1)
		checkVictim(t, chip(bare, block(4, 4, 2)), wanting(0, 3), -1, 1)
	}
	checkVictim(t, chip(api.Block{Pages: pages(4, 4)[:0], Next: 4}), api.Table{}, -1, -1)
}

// L1: blocks that are Bad, Free or Open are passed over, though fewer of their pages are wanted, and they have fewer Erases.
func TestVictimIsClosed(t *testing.T) {
	others := []api.Block{bad(block(4, 4, -9)), bad(block(4, 2, -9)), bad(block(4, 0, -9)), block(4, 0, -9), block(16, 0, -9), {}}
	for _, other := range others {
		checkVictim(t, chip(other), api.Table{}, -1, -1)
		checkVictim(t, chip(other), api.Table{}, 0, -1)
		checkVictim(t, chip(append([]api.Block{other}, closed(7, 7)...)...), wanting(0, 3, 2), -1, 2)
		checkVictim(t, chip(append(closed(7, 7), other)...), wanting(2, 3), 2, 0)
	}
	for written := range 4 {
		c := chip(block(4, 4, 7), block(4, written, -9))
		checkVictim(t, c, wanting(3), 1, 0)
		checkVictim(t, c, wanting(4), 1, -1)
	}
	// Some page of it Written makes no Open block Closed.
	checkVictim(t, chip(api.Block{Pages: pages(4, 4), Next: 0}), api.Table{}, 0, -1)
	checkVictim(t, chip(api.Block{Pages: pages(4, 4), Next: 0}), api.Table{}, -1, 0)
}

// L1: the open block is Closed, once it has no room; what it is hangs on which block is open.
func TestVictimIsTheOpenBlock(t *testing.T) {
	c := chip(block(4, 4, 1), block(4, 3, 1))
	checkVictim(t, c, wanting(1, 2), 0, 0)
	checkVictim(t, c, wanting(2, 1), 0, 1)
	checkVictim(t, c, wanting(2, 1), 1, 0)
	for _, open := range []int{math.MinInt, -1, 2, 33, math.MaxInt} {
		checkVictim(t, c, wanting(2, 1), open, 1)
	}
	for _, next := range []int{math.MinInt, -1, 4, 5, math.MaxInt} {
		checkVictim(t, chip(api.Block{Pages: pages(4, 0), Next: next}), wanting(3), 0, 0)
	}
}

// L1: blocks from MaxBlocks on are passed over, though nothing of them is wanted.
func TestVictimPassesOverBlocksBeyondMaxBlocks(t *testing.T) {
	c := chip(append(slices.Repeat(closed(5), 32), closed(-9, -9, -9)...)...)
	checkVictim(t, c, wanting(slices.Repeat([]int{3}, 32)...), -1, 0)
	checkVictim(t, c, wanting(slices.Repeat([]int{4}, 32)...), -1, -1)
	checkVictim(t, c, api.Table{}, 33, 0)
	free := chip(append(make([]api.Block, 32), closed(1, 1)...)...)
	checkVictim(t, free, api.Table{}, -1, -1)
	checkVictim(t, chip(append(make([]api.Block, 31), closed(1, 0)...)...), api.Table{}, -1, 31)
}

// L1: by a table without sectors nothing is wanted.
func TestVictimOfNoSectors(t *testing.T) {
	for _, x := range []api.Table{{}, replay.New(0), replay.New(5), {Map: []int{}, By: []int{-1, -7, math.MinInt}}} {
		checkVictim(t, chip(block(4, 0, 0), closed(3)[0], closed(2)[0], closed(2)[0]), x, -1, 2)
		checkVictim(t, api.Chip{}, x, -1, -1)
	}
}

// L1: -1 of no blocks, also where some stand behind the length, and where none may be one.
func TestVictimOfNone(t *testing.T) {
	for _, x := range someTables() {
		for _, open := range edges() {
			checkVictim(t, api.Chip{}, x, open, -1)
			checkVictim(t, chip(), x, open, -1)
			checkVictim(t, api.Chip{Blocks: closed(1, 2)[:0]}, x, open, -1)
			checkVictim(t, chip(make([]api.Block, 3)...), x, open, -1)
			checkVictim(t, chip(bad(block(2, 2, 0)), block(2, 0, 0)), x, open, -1)
		}
	}
	checkVictim(t, chip(closed(1, 1)...), wanting(4, 4), -1, -1)
	checkVictim(t, roomy(), wanting(4, 4, 4), -1, -1)
}

// L1: of all chips, tables and open blocks, the one that the words ask for.
func TestVictimAgainstWords(t *testing.T) {
	for _, c := range someChips() {
		for _, x := range someTables() {
			for _, open := range append(edges(), 4, 5, 8, 12, 13) {
				checkVictim(t, c, x, open, victimByWords(c, x, open))
			}
		}
	}
}

// L1: all ways that three blocks of up to two pages may be, by some tables.
func TestVictimOfSmallChips(t *testing.T) {
	var kinds []api.Block
	for n := range 3 {
		for written := range n + 1 {
			kinds = append(kinds, block(n, written, 1), block(n, written, 2), bad(block(n, written, 0)))
		}
	}
	for _, a := range kinds {
		for _, b := range kinds {
			for _, d := range kinds {
				c := chip(a, b, d)
				for _, x := range []api.Table{{}, wanting(1, 0, 1), wanting(2, 1, 1)} {
					for open := -1; open < 3; open++ {
						checkVictim(t, c, x, open, victimByWords(c, x, open))
					}
				}
			}
		}
	}
}

// L2: -1 as long as the Erases are at most so far apart; beyond it the Closed block with the fewest, with most 0 and above.
func TestColdByMost(t *testing.T) {
	for _, apart := range []int{1, 2, 3, 10, 1 << 32, 1<<40 - 1, 1 << 40} {
		c := chip(closed(apart, 0)...)
		for _, most := range []int{0, 1, apart - 1, apart, apart + 1, 1 << 41, math.MaxInt} {
			want := -1
			if apart > most {
				want = 1
			}
			checkCold(t, c, -1, most, want)
		}
	}
	c := chip(closed(9, 4, 6)...)
	checkCold(t, c, -1, 4, 1)
	checkCold(t, c, -1, 5, -1)
	checkCold(t, c, -1, 6, -1)
	checkCold(t, chip(closed(1<<40, 1<<40, 1<<40-1)...), -1, 0, 2)
	checkCold(t, chip(closed(1<<40, 1<<40, 1<<40-1)...), -1, 1, -1)
}

// L2: with most below 0 Erases are always further apart than that, though they be alike.
func TestColdByMostBelow0(t *testing.T) {
	for _, most := range []int{-1, -2, -1 << 32, -1 << 40, math.MinInt + 1, math.MinInt} {
		for _, n := range []int{0, 1, 7, 1 << 40} {
			checkCold(t, chip(closed(n, n, n)...), -1, most, 0)
			checkCold(t, chip(closed(n)...), 0, most, 0)
			checkCold(t, chip(block(4, 0, n), block(4, 4, n)), -1, most, 1)
			checkCold(t, chip(block(4, 0, n), block(4, 1, n)), 1, most, -1)
		}
		checkCold(t, chip(closed(8, 1<<40, 3)...), -1, most, 2)
		checkCold(t, api.Chip{}, -1, most, -1)
		checkCold(t, chip(bad(block(4, 4, 0))), -1, most, -1)
	}
}

// L2: the first Closed one of those with the fewest Erases; Free and Open ones with as few are passed over.
func TestColdIsTheFirstClosedOne(t *testing.T) {
	checkCold(t, chip(closed(9, 2, 3, 2)...), -1, 1, 1)
	checkCold(t, chip(closed(2, 2, 9)...), -1, 1, 0)
	checkCold(t, chip(closed(9, 8, 7, 0)...), -1, 1, 3)
	c := chip(block(4, 0, 2), block(4, 3, 2), block(4, 4, 9), block(4, 4, 2), block(4, 4, 2))
	checkCold(t, c, 1, 0, 3)
	checkCold(t, c, -1, 0, 1)
	checkCold(t, c, 0, 0, 1)
	// The open block is Closed, once it has no room.
	checkCold(t, c, 3, 0, 1)
	checkCold(t, chip(closed(1, 9)...), 0, 0, 0)
	// All that is Closed counts: also what has wanted pages alone, or no pages.
	checkCold(t, chip(block(4, 4, 9), api.Block{Next: 4, Erases: 3}), -1, 0, 1)
	checkCold(t, chip(block(4, 4, 9), api.Block{Pages: pages(4, 0), Next: -1, Erases: 3}), 1, 0, 1)
}

// L2: -1, where the fewest Erases are at Free and Open blocks alone, however few more a Closed one has.
func TestColdOfFreeAndOpenOnes(t *testing.T) {
	for _, most := range []int{-1, 0, 1, 3} {
		checkCold(t, chip(block(4, 4, 9), block(4, 0, 2), block(4, 4, 3)), -1, most, -1)
		checkCold(t, chip(block(4, 4, 9), block(4, 1, 2), block(4, 4, 3)), 1, most, -1)
		checkCold(t, chip(block(4, 4, 9), block(4, 0, 2), block(4, 4, 3)), 1, most, -1)
		checkCold(t, chip(block(4, 1, 2), block(4, 0, 2), block(4, 4, 9)), 0, most, -1)
		checkCold(t, chip(block(4, 0, 9), api.Block{}, block(4, 0, 0)), -1, most, -1)
		// The most Erases may be at a Free one.
		checkCold(t, chip(block(4, 4, 2), block(4, 0, 9)), -1, most, 0)
	}
}

// L2: Bad blocks do not count, with fewer Erases or with more than all others.
func TestColdPassesOverBadBlocks(t *testing.T) {
	for _, n := range []int{0, 1, 3, 99, 1 << 40} {
		full := bad(block(4, 4, n))
		checkCold(t, chip(full, block(4, 4, 5), block(4, 4, 2)), -1, 2, 2)
		checkCold(t, chip(block(4, 4, 5), full, block(4, 4, 2), full), -1, 3, -1)
		checkCold(t, chip(full, block(4, 4, 5), full), -1, 0, -1)
		checkCold(t, chip(full, block(4, 4, 5), full), -1, -1, 1)
		checkCold(t, chip(full, bad(block(4, 0, n)), full), -1, -1, -1)
	}
	// It has the fewest Erases, as a block that is not Bad has, but is not Closed.
	checkCold(t, chip(bad(block(4, 4, 2)), block(4, 4, 5), block(4, 0, 2)), -1, 0, -1)
	// Of none that is not Bad the fewest and the most are 0, as are the Erases of this one.
	checkCold(t, chip(bad(block(4, 4, 0))), 0, -1, -1)
}

// L2: -1 of no blocks, also where some stand behind the length.
func TestColdOfNoBlocks(t *testing.T) {
	for _, n := range edges() {
		for _, most := range edges() {
			checkCold(t, api.Chip{}, n, most, -1)
			checkCold(t, chip(), n, most, -1)
			checkCold(t, api.Chip{Blocks: closed(1, 9)[:0]}, n, most, -1)
		}
	}
	checkCold(t, roomy(), -1, 3, 1)
	checkCold(t, roomy(), -1, 4, -1)
}

// L2: it does not say "up to MaxBlocks", as L1 does: blocks beyond these are cold, too, and are compared with.
func TestColdBeyondMaxBlocks(t *testing.T) {
	checkCold(t, chip(append(slices.Repeat(closed(5), 40), closed(1)...)...), -1, 3, 40)
	checkCold(t, chip(append(slices.Repeat(closed(5), 40), closed(9)...)...), -1, 3, 0)
}

// L2: of chips of Erases from 0 to 2^40, the block that the words ask for.
func TestColdAgainstWords(t *testing.T) {
	for seed := range uint32(300) {
		c := chip()
		for b := range int(seed%6) + 1 {
			seed = seed*1664525 + 1013904223
			x := block(4, int(seed>>8)%5, int(seed>>12)%4)
			x.Bad = seed>>28 < 3
			if seed>>24&15 == 1 {
				x.Erases = 1 << 40
			}
			c.Blocks = append(c.Blocks, x)
			for open := -1; open <= b+1; open++ {
				for most := -1; most < 5; most++ {
					checkCold(t, c, open, most, coldByWords(c, open, most))
				}
				checkCold(t, c, open, 1<<40-2, coldByWords(c, open, 1<<40-2))
			}
		}
	}
}

// coldByWords is L2, of Erases from 0 to 2^40.
func coldByWords(c api.Chip, open, most int) int {
	var erases []int
	for _, x := range c.Blocks {
		if !x.Bad {
			erases = append(erases, x.Erases)
		}
	}
	slices.Sort(erases)
	for b, x := range c.Blocks {
		if stateByWords(c, open, b) == 2 && x.Erases == erases[0] && erases[len(erases)-1]-erases[0] > most {
			return b
		}
	}
	return -1
}

// L2: of Erases below 0, and at the ends of int, nothing is promised but that it ends, and answers.
func TestColdEnds(t *testing.T) {
	for _, least := range edges() {
		for _, greatest := range edges() {
			for _, most := range edges() {
				for _, open := range []int{math.MinInt, -1, 0, 1, 2, math.MaxInt} {
					Cold(chip(block(4, 4, greatest), block(4, 4, least)), open, most)
					Cold(chip(block(4, 0, least), block(4, 2, greatest)), open, most)
				}
			}
		}
	}
	for _, c := range someChips() {
		for _, open := range edges() {
			for _, most := range edges() {
				Cold(c, open, most)
			}
		}
	}
}

// L3: so many pages as the block has, less those that are written; the others of its chip make no difference.
func TestRest(t *testing.T) {
	for n := 1; n <= 20; n++ {
		for written := range n + 1 {
			for b := range 3 {
				blocks := []api.Block{bad(block(3, 1, 1)), block(3, 3, 1), block(3, 0, 1)}
				blocks[b] = block(n, written, 5)
				checkRest(t, chip(blocks...), b, n-written)
			}
		}
	}
	c := chip(append(slices.Repeat(closed(5), 40), block(4, 1, 0))...)
	checkRest(t, c, 40, 3)
	checkRest(t, c, 39, 0)
}

// L3: what is written still is told by Next, whatever the pages are.
func TestRestByNext(t *testing.T) {
	for n := range 5 {
		for written := range n + 1 {
			for _, next := range append(edges(), n-1, n, n+1) {
				want := 0
				if next >= 0 && next < n {
					want = n - next
				}
				checkRest(t, chip(api.Block{Pages: pages(n, written), Next: next}), 0, want)
			}
		}
	}
}

// L3: 0 of an open block that is full, Bad, or has no pages, and has a Next below 0, or beyond its pages.
func TestRestOfNoRoom(t *testing.T) {
	for _, x := range []api.Block{
		block(4, 4, 0), block(1, 1, 0), block(16, 16, 0), bad(block(4, 0, 0)), bad(block(4, 2, 0)), {}, {Next: 1}, {Next: -1}, {Pages: pages(4, 0)[:0]},
		{Pages: pages(4, 0), Next: -1}, {Pages: pages(4, 0), Next: 5}, {Pages: pages(4, 0), Next: math.MinInt}, {Pages: pages(4, 0), Next: math.MaxInt},
		{Pages: pages(4, 0)[:2], Next: 2}, {Pages: pages(4, 0)[:2], Next: 3},
	} {
		checkRest(t, chip(x), 0, 0)
		checkRest(t, chip(block(4, 1, 0), x), 1, 0)
	}
}

// L3: 0 of numbers that are no block, also where one stands behind the length.
func TestRestOfNoBlock(t *testing.T) {
	c := chip(block(4, 1, 0), block(4, 0, 0))
	for _, open := range edges() {
		if open < 0 || open > 1 {
			checkRest(t, c, open, 0)
		}
		checkRest(t, api.Chip{}, open, 0)
		checkRest(t, chip(), open, 0)
	}
	checkRest(t, api.Chip{Blocks: c.Blocks[:1]}, 1, 0)
}

// told is a page with a record that layer 4 makes.
func told(t *testing.T, r api.Record) api.Page {
	t.Helper()
	p, errno := look.Make(api.Write{Data: "d", Record: r})
	if errno != api.OK {
		t.Fatalf("no page of %+v: %d", r, errno)
	}
	return p
}

// checkTheorem holds L4 against a chip and its table, with each block open, and with none.
func checkTheorem(t *testing.T, c api.Chip, x api.Table) {
	t.Helper()
	for open := -1; open <= len(c.Blocks); open++ {
		v := Victim(c, x, open)
		for b := range c.Blocks {
			if states.State(c, open, b) != api.Closed {
				if b == v {
					t.Fatalf("%d is not Closed, of %+v, open %d", v, c, open)
				}
				continue
			}
			wanted := live.Count(x, b)
			if v < 0 && wanted < len(c.Blocks[b].Pages) || v >= 0 && wanted < live.Count(x, v) {
				t.Fatalf("block %d has %d wanted pages, and the victim is %d, of %+v, %v, open %d", b, wanted, v, c, x, open)
			}
		}
		checkVictim(t, c, x, open, victimByWords(c, x, open))
		least, greatest := states.Wear(c)
		for most := range 4 {
			if least == greatest {
				checkCold(t, c, open, most, -1)
			}
			checkCold(t, c, open, most, coldByWords(c, open, most))
		}
		if rest, isOpen := Rest(c, open), states.State(c, open, open) == api.Open; isOpen != (rest > 0) {
			t.Fatalf("Rest %d, Open %t, of %+v, open %d", rest, isOpen, c, open)
		}
	}
}

// L4: over long runs of programs and erases of layer 5, some of which fail or are cut, with the tables that layer 7 tells.
func TestTheoremOverRuns(t *testing.T) {
	for seed := range uint32(8) {
		n := []int{1, 2, 3, 5}[seed%4]
		c, _ := nand.New(7, n, []int{int(seed % 7)})
		victims := 0
		for seq := range 200 {
			seed = seed*1664525 + 1013904223
			b, key := int(seed>>8)%7, int(seed>>16)%6
			fate := api.Fate{N: int(seed>>12) % 4}
			if seed>>28 == 0 {
				fate.Kind = api.Cut
			} else if seed>>25 == 9 {
				fate.Kind = api.Fail
			}
			switch at := c.Blocks[b]; {
			case at.Bad:
			case at.Next == n:
				c, _ = nand.Erase(c, b, fate)
			case key == 5:
				c, _ = nand.Program(c, b, at.Next, told(t, api.Record{Kind: api.Change, Seq: seq, Keys: []int{key - 1}, Values: []int{-1}}), fate)
			default:
				c, _ = nand.Program(c, b, at.Next, told(t, api.Record{Kind: api.Data, Seq: seq, Keys: []int{key, key + 1}}), fate)
			}
			x, _ := replay.Replay(c, 6)
			checkTheorem(t, c, x)
			if Victim(c, x, -1) >= 0 {
				victims++
			}
			c = nand.On(c)
		}
		if c.Broken || victims < 20 {
			t.Errorf("Broken: %t, %d victims", c.Broken, victims)
		}
	}
}

// L4: all ways of four programs and erases behind one another, of two blocks of two pages.
func TestTheoremOfAFewSteps(t *testing.T) {
	var walk func(c api.Chip, depth int)
	walk = func(c api.Chip, depth int) {
		x, _ := replay.Replay(c, 2)
		checkTheorem(t, c, x)
		for b := range c.Blocks {
			for kind := range 3 {
				if depth == 0 || t.Failed() {
					return
				}
				page := told(t, api.Record{Kind: api.Data, Seq: 9 - depth, Keys: []int{depth % 2}})
				erased, _ := nand.Erase(nand.On(c), b, api.Fate{Kind: kind, N: 1})
				walk(erased, depth-1)
				programmed, _ := nand.Program(nand.On(c), b, c.Blocks[b].Next, page, api.Fate{Kind: kind})
				walk(programmed, depth-1)
			}
		}
	}
	c, _ := nand.New(2, 2, nil)
	walk(c, 4)
}

// L4: Erases that are alike make no block cold, whatever the blocks are.
func TestAlikeErasesMakeNoBlockCold(t *testing.T) {
	for _, n := range []int{0, 1, 1 << 32, 1 << 40} {
		c := chip(block(4, 4, n), block(4, 2, n), block(4, 0, n), bad(block(4, 4, n+1)), bad(block(4, 4, 0)), api.Block{Next: 9, Erases: n})
		for open := -1; open <= 6; open++ {
			for _, most := range []int{0, 1, 2, 1 << 40, math.MaxInt} {
				checkCold(t, c, open, most, -1)
			}
		}
	}
}

// whole is a copy of a list with what stands behind its length, up to its capacity.
func whole[T any](list []T) []T {
	return slices.Clone(list[:cap(list)])
}

// wholeChip is a copy of c with what stands behind the lengths of its lists, too.
func wholeChip(c api.Chip) api.Chip {
	c.Blocks = whole(c.Blocks)
	for b := range c.Blocks {
		c.Blocks[b].Pages = whole(c.Blocks[b].Pages)
	}
	return c
}

// askAll calls all of the package, of a chip and a table, with open blocks and mosts at all edges.
func askAll(c api.Chip, x api.Table) []int {
	var out []int
	for _, open := range edges() {
		out = append(out, Victim(c, x, open), Rest(c, open))
		for _, most := range []int{math.MinInt, -1, 0, 1, 5, math.MaxInt} {
			out = append(out, Cold(c, open, most))
		}
	}
	return out
}

// R3: no chip and no table that is handed in has changed behind any call, nor what stands behind the lengths of their lists.
func TestNothingIsWrittenInto(t *testing.T) {
	for _, c := range someChips() {
		for _, x := range someTables() {
			chipBefore, mapBefore, byBefore := wholeChip(c), whole(x.Map), whole(x.By)
			askAll(c, x)
			if after := wholeChip(c); !reflect.DeepEqual(after, chipBefore) {
				t.Fatalf("the chip has become %+v, was %+v", after, chipBefore)
			}
			if !slices.Equal(whole(x.Map), mapBefore) || !slices.Equal(whole(x.By), byBefore) {
				t.Fatalf("the table has become %v, was %v, %v", x, mapBefore, byBefore)
			}
		}
	}
}

// R4: the same arguments have the same answer, whatever was called between.
func TestNoCallLeavesATrace(t *testing.T) {
	var first [][]int
	for _, c := range someChips() {
		for _, x := range someTables() {
			first = append(first, askAll(c, x))
		}
	}
	for i, c := range someChips() {
		for j, x := range someTables() {
			if second := askAll(c, x); !slices.Equal(first[i*len(someTables())+j], second) {
				t.Fatalf("of %+v, %v: %v", c, x, second)
			}
		}
	}
}

// L1 to L3: what a chip is beside its blocks makes no difference.
func TestChipsFlagsDoNotMatter(t *testing.T) {
	for _, c := range someChips() {
		for _, x := range someTables() {
			want := askAll(api.Chip{Blocks: c.Blocks}, x)
			if got := askAll(api.Chip{Blocks: c.Blocks, Off: true, Broken: true, Ops: -3}, x); !slices.Equal(got, want) {
				t.Fatalf("of %+v, Off and Broken, %v: %v, want %v", c, x, got, want)
			}
		}
	}
}
