package plan

import (
	"fmt"
	"math"
	"reflect"
	"slices"
	"strings"
	"testing"

	"clinker/api"
	"clinker/live"
	"clinker/look"
	"clinker/nand"
	"clinker/replay"
	"clinker/scan"
)

// block is a block of pages that are Written, with these data.
func block(texts ...string) api.Block {
	b := api.Block{Next: len(texts)}
	for _, text := range texts {
		b.Pages = append(b.Pages, api.Page{Written: true, Data: text, Tag: "t"})
	}
	return b
}

// chip is a chip of these blocks.
func chip(blocks ...api.Block) api.Chip { return api.Chip{Blocks: blocks} }

// table is a table of these lists.
func table(places, by []int) api.Table { return api.Table{Map: places, By: by} }

// times is a list that has a number so many times.
func times(number, count int) []int { return slices.Repeat([]int{number}, count) }

// from are count numbers, from first on.
func from(first, count int) []int {
	var out []int
	for i := range count {
		out = append(out, first+i)
	}
	return out
}

// dataOf is a write of a page's data.
func dataOf(data string, keys ...int) api.Write {
	return api.Write{Data: data, Record: api.Record{Kind: 1, Keys: keys}}
}

// changeOf is a write that says which places sectors have.
func changeOf(keys, values []int) api.Write {
	return api.Write{Record: api.Record{Kind: 2, Keys: keys, Values: values}}
}

// sameWrite tells whether two writes are the same; an empty list is as good as none.
func sameWrite(a, b api.Write) bool {
	return a.Data == b.Data && a.Record.Kind == b.Record.Kind && a.Record.Seq == b.Record.Seq &&
		slices.Equal(a.Record.Keys, b.Record.Keys) && slices.Equal(a.Record.Values, b.Record.Values)
}

// shown is a list of writes as a text of some lines, as chips and tables would fill pages.
func shown(writes []api.Write) string {
	text := fmt.Sprintf("%+v", writes)
	return text[:min(len(text), 2000)]
}

// checkMoves holds what Moves answers against what is wanted.
func checkMoves(t *testing.T, c api.Chip, x api.Table, b int, want ...api.Write) {
	t.Helper()
	if got := Moves(c, x, b); !slices.EqualFunc(got, want, sameWrite) {
		t.Fatalf("Moves of %d = %s, want %s", b, shown(got), shown(want))
	}
}

// checkTwin holds what Twin answers against the place that is wanted.
func checkTwin(t *testing.T, c api.Chip, x api.Table, data string, want int) {
	t.Helper()
	if got := Twin(c, x, data); got != want {
		t.Fatalf("Twin of %q = %d, want %d", data, got, want)
	}
}

// checkHas holds what Has answers against the data that are wanted.
func checkHas(t *testing.T, c api.Chip, x api.Table, sector int, want string) {
	t.Helper()
	if got := Has(c, x, sector); got != want {
		t.Fatalf("Has of %d = %q, want %q", sector, got, want)
	}
}

// edges are numbers at the edges of blocks, of places, and of int, some of which wrap round when they are multiplied by 16.
func edges() []int {
	return []int{
		math.MinInt, math.MinInt + 1, math.MinInt / 16, -1 << 60, -1 << 32, -513, -32, -17, -16, -15, -2, -1, 0, 1, 2, 3, 15, 16, 17, 30, 31, 32, 33,
		63, 64, 495, 496, 511, 512, 513, 1 << 32, 1<<32 + 1, 1 << 40, math.MaxInt / 16, math.MaxInt/16 + 1, 1 << 60, math.MaxInt - 1, math.MaxInt,
	}
}

// noPlaces are numbers that are no Place.
func noPlaces() []int {
	return slices.DeleteFunc(edges(), func(n int) bool { return n >= 0 && n < 512 })
}

// textOf is a page's data in the chips below: a few texts, nothing, and one that is too long, so that many have the same.
func textOf(n int) string {
	return []string{"a", "b", "", "a", "\x00\xff", strings.Repeat("long", 9), "c", "a", "b"}[n%9]
}

// unlike is a chip that no call of layer 5 makes: unlike counts of pages, none, more than MaxPages, more blocks than MaxBlocks.
func unlike() api.Chip {
	var c api.Chip
	for b := range 40 {
		var texts []string
		for p := range b * 7 % 21 {
			texts = append(texts, textOf(b*5+p))
		}
		x := block(texts...)
		x.Bad, x.Next, x.Erases = b%5 == 3, b*9-70, math.MinInt+b
		c.Blocks = append(c.Blocks, x)
	}
	return c
}

// full is a chip of 32 blocks of 16 pages.
func full() api.Chip {
	var c api.Chip
	for b := range 32 {
		var texts []string
		for p := range 16 {
			texts = append(texts, textOf(b*16+p))
		}
		c.Blocks = append(c.Blocks, block(texts...))
	}
	return c
}

// roomy is a chip with blocks and pages behind the lengths of its lists.
func roomy() api.Chip {
	c := chip(block("a", "b", "c", "d"), block("", "a", "b"), block("c", "d"), block("a", "a", "a"))
	c.Blocks[0].Pages = c.Blocks[0].Pages[:2]
	c.Blocks[2].Pages = c.Blocks[2].Pages[:1]
	c.Blocks = c.Blocks[:3]
	return c
}

// someChips are chips of all kinds, some of which are Off and Broken.
func someChips() []api.Chip {
	off := roomy()
	off.Off, off.Broken, off.Ops = true, true, math.MinInt
	return []api.Chip{
		{}, chip(), chip(api.Block{}), chip(block("a")), unlike(), full(), roomy(), off,
		chip(block("a", "b", "a", ""), api.Block{Pages: make([]api.Page, 4)}, api.Block{}, block("b", "b", "a", "c")),
	}
}

// roomyTable is a table with sectors behind the lengths of its lists; both stand in one list.
func roomyTable() api.Table {
	all := []int{0, 1, 16, 0, 17, 1, 0, 16, 18, 0, 1, 2}
	return table(all[:4], all[4:9])
}

// great is a table of far more sectors than layer 7 makes, with many places more than once.
func great() api.Table {
	x := table(make([]int, 1500), make([]int, 1200))
	for sector := range x.Map {
		x.Map[sector] = sector*211%700 - 40
	}
	for sector := range x.By {
		x.By[sector] = sector * sector % 613
	}
	return x
}

// someTables are tables of all kinds, also with lists of unlike lengths.
func someTables() []api.Table {
	return []api.Table{
		{}, table([]int{}, []int{}), replay.New(0), replay.New(64), great(), roomyTable(),
		table(edges(), nil), table(nil, edges()), table(edges(), edges()), table(edges(), times(1, 60)), table(times(16, 50), edges()),
		table(from(0, 600), nil), table(from(0, 600), from(3, 600)), table(nil, times(2, 40)), table(times(-1, 64), from(-3, 64)),
		table([]int{0, 1, 0, 3, 16, 17, 0, 48, 51}, []int{0, 1, 2, 3}), table([]int{2, 50}, []int{50, 2, 2, 50, 16, 16}),
		table(slices.Concat(times(0, 8), times(3, 7), times(50, 1)), slices.Concat(times(1, 9), times(16, 8))),
	}
}

// partsByWords are a list's numbers, eight after eight, and what is left.
func partsByWords(list []int) [][]int {
	var out [][]int
	for i, n := range list {
		if i%8 == 0 {
			out = append(out, nil)
		}
		out[i/8] = append(out[i/8], n)
	}
	return out
}

// movesByWords is what M1 asks, word by word; of a place that the chip has no page of the Data are nothing.
func movesByWords(c api.Chip, x api.Table, b int) []api.Write {
	var out []api.Write
	if b < 0 || b > 31 {
		return nil
	}
	for place := 16 * b; place < 16*b+16; place++ {
		var owners, says, values []int
		for sector, m := range x.Map {
			if m == place {
				owners = append(owners, sector)
			}
		}
		for sector, by := range x.By {
			its := -1
			if sector < len(x.Map) {
				its = x.Map[sector]
			}
			if by == place && (its < 16*b || its > 16*b+15) {
				says, values = append(says, sector), append(values, its)
			}
		}
		for _, part := range partsByWords(owners) {
			page, _ := scan.Page(c, place)
			out = append(out, dataOf(page.Data, part...))
		}
		its := partsByWords(values)
		for i, part := range partsByWords(says) {
			out = append(out, changeOf(part, its[i]))
		}
	}
	return out
}

// isPage tells whether c has a page at a place.
func isPage(c api.Chip, place int) bool {
	_, ok := scan.Page(c, place)
	return ok
}

// twinByWords is what M2 asks, of all places, one by one.
func twinByWords(c api.Chip, x api.Table, data string) int {
	for place := range 512 {
		owners := 0
		for _, m := range x.Map {
			if m == place {
				owners++
			}
		}
		if owners > 0 && owners < 8 && isPage(c, place) && c.Blocks[place/16].Pages[place%16].Data == data {
			return place
		}
	}
	return -1
}

// hasByWords is what M3 asks.
func hasByWords(c api.Chip, x api.Table, sector int) string {
	for place := range 512 {
		if sector >= 0 && sector < len(x.Map) && x.Map[sector] == place && isPage(c, place) {
			return c.Blocks[place/16].Pages[place%16].Data
		}
	}
	return ""
}

// M1: the chapter's example.
func TestMovesOfTheExample(t *testing.T) {
	x := table([]int{-1, 0, -1, -1, 0}, []int{-1, 0, -1, -1, 0})
	checkMoves(t, chip(block("abc")), x, 0, dataOf("abc", 1, 4))
}

// M1: a page without Owners, and with nothing to say, is not written.
func TestMovesOfNoOwners(t *testing.T) {
	c := chip(block("a", "b"), block("c", "d"))
	for _, x := range []api.Table{{}, replay.New(64), table([]int{16, -1, 40}, []int{17, -1, 16})} {
		checkMoves(t, c, x, 0)
	}
	checkMoves(t, c, table([]int{1, 1}, []int{1, 1}), 0, dataOf("b", 0, 1))
	checkMoves(t, c, table([]int{16, 1}, nil), 0, dataOf("b", 1))
}

// M1: as many Owners as there are: in parts of eight, in the sectors' order.
func TestMovesInPartsOfOwners(t *testing.T) {
	for _, n := range []int{1, 2, 7, 8, 9, 15, 16, 17, 63, 64, 65} {
		c := chip(block("x", "abc"), block("y"))
		for _, other := range []int{-1, 0, 16} {
			// Sectors of the page stand at 2, 4, 6 and so on, behind those of others.
			var places, owners []int
			for i := range n {
				places = append(places, other, other, 1)
				owners = append(owners, 3*i+2)
			}
			want := []api.Write{}
			for first := 0; first < n; first += 8 {
				want = append(want, dataOf("abc", owners[first:min(first+8, n)]...))
			}
			got := Moves(c, table(places, times(-1, 3*n)), 0)
			got = slices.DeleteFunc(got, func(w api.Write) bool { return w.Data == "x" })
			if !slices.EqualFunc(got, want, sameWrite) {
				t.Fatalf("%d Owners: %s", n, shown(got))
			}
		}
	}
	c := chip(block("a"))
	checkMoves(t, c, table(times(0, 8), nil), 0, dataOf("a", 0, 1, 2, 3, 4, 5, 6, 7))
	checkMoves(t, c, table(times(0, 9), nil), 0, dataOf("a", 0, 1, 2, 3, 4, 5, 6, 7), dataOf("a", 8))
	checkMoves(t, c, table(times(0, 17), nil), 0, dataOf("a", 0, 1, 2, 3, 4, 5, 6, 7), dataOf("a", 8, 9, 10, 11, 12, 13, 14, 15), dataOf("a", 16))
}

// M1: a page whose Data are nothing is written, too, as is one that is not Written, and one whose Data no page may have.
func TestMovesOfAnyData(t *testing.T) {
	for _, data := range []string{"", "\x00", "0123456789abcdef", "0123456789abcdefg", strings.Repeat("\xff", 300)} {
		checkMoves(t, chip(block(data)), table([]int{0, 0}, []int{0, 0}), 0, dataOf(data, 0, 1))
	}
	checkMoves(t, chip(api.Block{Pages: make([]api.Page, 2)}), table([]int{1}, []int{1}), 0, dataOf("", 0))
	checkMoves(t, chip(api.Block{Pages: []api.Page{{Data: "d"}}, Bad: true}), table([]int{0}, nil), 0, dataOf("d", 0))
}

// M1: what a page Says of sectors that it owns itself, or another page of the block, is left out.
func TestMovesOfWhatIsOwnedInTheBlock(t *testing.T) {
	c := chip(block("a", "b", "c"), block("d"))
	checkMoves(t, c, table([]int{0, 0}, []int{0, 0}), 0, dataOf("a", 0, 1))
	checkMoves(t, c, table([]int{0, 0}, []int{1, 2}), 0, dataOf("a", 0, 1))
	checkMoves(t, c, table([]int{2, 1, 0}, []int{0, 0, 0}), 0, dataOf("a", 2), dataOf("b", 1), dataOf("c", 0))
	checkMoves(t, c, table([]int{16, 0, 16}, []int{1, 1, 1}), 0, dataOf("a", 1), changeOf([]int{0, 2}, []int{16, 16}))
	// Each of the block's places is its own, from the first to the last one, also where the chip has no page.
	for p := range 16 {
		got := Moves(c, table([]int{16 + p}, []int{16}), 1)
		if len(got) != 1 || got[0].Record.Kind != api.Data {
			t.Fatalf("page %d: %s", p, shown(got))
		}
	}
	checkMoves(t, c, table([]int{15}, []int{16}), 1, changeOf([]int{0}, []int{15}))
	checkMoves(t, c, table([]int{32}, []int{16}), 1, changeOf([]int{0}, []int{32}))
}

// M1: of sectors that have a page of another block, nothing, or a number that is no Place, the Value is their Map.
func TestMovesOfWhatIsSaid(t *testing.T) {
	c := chip(block("a", "b"), block("c"))
	for _, m := range append(noPlaces(), -1, 16, 17, 31, 32, 511) {
		checkMoves(t, c, table([]int{m}, []int{0}), 0, changeOf([]int{0}, []int{m}))
		checkMoves(t, c, table([]int{-1, m, 16}, []int{0, 0, 0}), 0, changeOf([]int{0, 1, 2}, []int{-1, m, 16}))
	}
}

// M1: of sectors beyond Map the Value is -1.
func TestMovesBeyondMap(t *testing.T) {
	c := chip(block("a", "b"), block("c"))
	checkMoves(t, c, table(nil, []int{0}), 0, changeOf([]int{0}, []int{-1}))
	checkMoves(t, c, table([]int{16}, []int{0, 0, 16, 0}), 0, changeOf([]int{0, 1, 3}, []int{16, -1, -1}))
	checkMoves(t, c, table([]int{16, 0, 0, 0}[:1], []int{0, 0, 16, 0}), 0, changeOf([]int{0, 1, 3}, []int{16, -1, -1}))
	checkMoves(t, c, table([]int{0}, []int{-1, 1}), 0, dataOf("a", 0), changeOf([]int{1}, []int{-1}))
	// Of sectors beyond By nothing says what they have.
	checkMoves(t, c, table([]int{0, 16, 0}, []int{1}), 0, dataOf("a", 0, 2))
}

// M1: as much as there is to say: in parts of eight, the Values in the Keys' order.
func TestMovesInPartsOfWhatIsSaid(t *testing.T) {
	c := chip(block("a"), block("b"))
	for _, n := range []int{1, 2, 7, 8, 9, 15, 16, 17, 63, 64, 65} {
		keys, values := from(0, n), from(16, n)
		slices.Reverse(values)
		want := []api.Write{}
		for first := 0; first < n; first += 8 {
			end := min(first+8, n)
			want = append(want, changeOf(keys[first:end], values[first:end]))
		}
		checkMoves(t, c, table(values, times(0, n)), 0, want...)
	}
	// What is left out is no part of any eight.
	places := slices.Concat(from(20, 5), []int{0, 1, 0}, from(30, 5))
	checkMoves(t, chip(block("a", "b")), table(places, times(1, 13)), 0, dataOf("a", 5, 7), dataOf("b", 6),
		changeOf([]int{0, 1, 2, 3, 4, 8, 9, 10}, []int{20, 21, 22, 23, 24, 30, 31, 32}), changeOf([]int{11, 12}, []int{33, 34}))
}

// M1: of a page that has Owners, and something to say, the Data are first.
func TestMovesOfBoth(t *testing.T) {
	c := chip(block("a"), block("b"))
	checkMoves(t, c, table([]int{16, 0, -1, 0}, []int{0, 0, 0, 0}), 0, dataOf("a", 1, 3), changeOf([]int{0, 2}, []int{16, -1}))
	x := table(slices.Concat(times(17, 9), times(0, 9)), times(0, 18))
	checkMoves(t, c, x, 0, dataOf("a", 9, 10, 11, 12, 13, 14, 15, 16), dataOf("a", 17), changeOf(from(0, 8), times(17, 8)), changeOf([]int{8}, []int{17}))
}

// M1: of several pages, in their order, each with all of its own.
func TestMovesOfSeveralPages(t *testing.T) {
	c := chip(block("x"), block("a", "b", "c", "d"))
	checkMoves(t, c, table([]int{19, 18, 17, 16}, nil), 1, dataOf("a", 3), dataOf("b", 2), dataOf("c", 1), dataOf("d", 0))
	checkMoves(t, c, table([]int{16, 18, 0, -1, 19}, []int{16, 18, 18, 16, 17}), 1,
		dataOf("a", 0), changeOf([]int{3}, []int{-1}), dataOf("c", 1), changeOf([]int{2}, []int{0}), dataOf("d", 4))
	// Pages with the same Data are written each by itself.
	checkMoves(t, chip(block("a", "a")), table([]int{1, 0, 1}, nil), 0, dataOf("a", 1), dataOf("a", 0, 2))
	var want []api.Write
	for p := range 16 {
		want = append(want, dataOf(textOf(5*16+p), p))
	}
	checkMoves(t, full(), table(from(80, 16), from(80, 16)), 5, want...)
}

// M1: where the chip has no page layer 6's Page has no Data: of such places of the block what is wanted is moved, too.
func TestMovesOfPlacesWithoutPages(t *testing.T) {
	c := chip(block("a", "b"))
	checkMoves(t, c, table([]int{2, 15, 1, 2}, nil), 0, dataOf("b", 2), dataOf("", 0, 3), dataOf("", 1))
	checkMoves(t, c, table([]int{16, -1}, []int{2, 15}), 0, changeOf([]int{0}, []int{16}), changeOf([]int{1}, []int{-1}))
	checkMoves(t, c, table([]int{16, 31}, []int{0, 16}), 1, dataOf("", 0), dataOf("", 1))
	checkMoves(t, api.Chip{}, table([]int{5}, []int{5}), 0, dataOf("", 0))
	checkMoves(t, roomy(), table([]int{2, 0, 48}, []int{3, 1, 1}), 0, dataOf("a", 1), changeOf([]int{2}, []int{48}), dataOf("", 0))
	checkMoves(t, roomy(), table([]int{48}, []int{48}), 3, dataOf("", 0))
	for b := range 32 {
		checkMoves(t, c, replay.New(64), b)
	}
}

// M1: the pages of a block beyond MaxPages have no Place, nor have those of a block beyond MaxBlocks.
func TestMovesOfPagesWithoutPlaces(t *testing.T) {
	texts := strings.Split("abcdefghijklmnopqrst", "")
	c := chip(block(texts...), block(texts...))
	checkMoves(t, c, table(from(14, 4), nil), 0, dataOf("o", 0), dataOf("p", 1))
	checkMoves(t, c, table(from(14, 4), nil), 1, dataOf("a", 2), dataOf("b", 3))
	many := api.Chip{Blocks: slices.Repeat([]api.Block{block("a")}, 40)}
	x := table([]int{496, 512, 528}, []int{496, 512, 528})
	checkMoves(t, many, x, 31, dataOf("a", 0))
	checkMoves(t, many, x, 32)
	checkMoves(t, many, x, 33)
}

// M1: nothing of blocks below 0, and from MaxBlocks on; the last one is a block as any other.
func TestMovesAtTheEdgesOfBlocks(t *testing.T) {
	x := table(append(edges(), from(0, 600)...), append(edges(), times(-1, 600)...))
	for _, b := range edges() {
		if b < 0 || b > 31 {
			checkMoves(t, full(), x, b)
			checkMoves(t, unlike(), x, b)
			checkMoves(t, full(), table(times(-1, 64), times(-1, 64)), b)
		} else if len(Moves(full(), x, b)) < 16 {
			t.Fatalf("block %d is not moved", b)
		}
	}
	checkMoves(t, full(), table([]int{511, 496, 495}, []int{511, 496, 497}), 31,
		dataOf(textOf(496), 1), changeOf([]int{2}, []int{495}), dataOf(textOf(511), 0))
	checkMoves(t, full(), table([]int{16, 15, 0}, []int{15, 0, 0}), 0, dataOf(textOf(0), 2), dataOf(textOf(15), 1), changeOf([]int{0}, []int{16}))
}

// M1: each Seq is 0, records of Data have no Values, writes of a Change no Data, and no part is empty, or of more than eight.
func TestMovesHaveNoMore(t *testing.T) {
	for _, c := range someChips() {
		for _, x := range someTables() {
			for _, b := range edges() {
				for _, w := range Moves(c, x, b) {
					r := w.Record
					isData := r.Kind == api.Data && len(r.Values) == 0
					isChange := r.Kind == api.Change && w.Data == "" && len(r.Values) == len(r.Keys)
					if r.Seq != 0 || len(r.Keys) < 1 || len(r.Keys) > 8 || !isData && !isChange {
						t.Fatalf("of block %d: %s", b, shown([]api.Write{w}))
					}
				}
			}
		}
	}
}

// M1: of all chips, tables and blocks, what the words ask for.
func TestMovesAgainstWords(t *testing.T) {
	for _, c := range someChips() {
		for _, x := range someTables() {
			for _, b := range append(edges(), 4, 5, 6, 7, 9, 20) {
				checkMoves(t, c, x, b, movesByWords(c, x, b)...)
			}
		}
	}
}

// M2: of several places whose pages have that Data the least one, wherever the sectors stand.
func TestTwinIsTheLeastPlace(t *testing.T) {
	c := chip(block("b", "a", "a"), block("a", "b", "a"))
	for _, x := range []struct {
		want   int
		places []int
	}{
		{1, []int{1, 2, 16, 18}}, {1, []int{18, 16, 2, 1}}, {2, []int{18, 2, 16}}, {16, []int{18, 16}}, {16, []int{16, 18}}, {18, []int{18}},
		{1, []int{16, 1, 16}}, {2, []int{0, 17, 18, -1, 2}},
	} {
		checkTwin(t, c, table(x.places, times(-1, len(x.places))), "a", x.want)
		checkTwin(t, c, table(x.places, nil), "a", x.want)
	}
	checkTwin(t, c, table([]int{17, 0, 1}, nil), "b", 0)
	checkTwin(t, c, table([]int{17, 1, 1}, nil), "b", 17)
	// All places of a full chip, the last one, too.
	same := api.Chip{Blocks: slices.Repeat([]api.Block{block(slices.Repeat([]string{"a"}, 16)...)}, 32)}
	for _, place := range []int{0, 15, 16, 255, 496, 511} {
		checkTwin(t, same, table([]int{511, place, 511}, nil), "a", place)
	}
	checkTwin(t, same, table(from(0, 512), nil), "a", 0)
}

// M2: a place with 8 Owners or more is passed over, one with fewer is not.
func TestTwinByOwners(t *testing.T) {
	c := chip(block("a", "b", "a"), block("a"))
	for n := 1; n <= 20; n++ {
		want := 0
		if n >= 8 {
			want = 2
		}
		checkTwin(t, c, table(append(times(0, n), 16, 2), nil), "a", want)
		checkTwin(t, c, table(append([]int{16, 2}, times(0, n)...), times(0, n)), "a", want)
		if n >= 8 {
			want = -1
		}
		checkTwin(t, c, table(times(0, n), times(0, n)), "a", want)
	}
	checkTwin(t, c, table(slices.Concat(times(0, 8), times(2, 9), times(16, 7)), nil), "a", 16)
	checkTwin(t, c, table(slices.Concat(times(0, 8), times(2, 8), times(16, 8)), nil), "a", -1)
	checkTwin(t, c, table(slices.Concat(times(0, 7), times(1, 8), times(2, 8)), nil), "a", 0)
	// What says of sectors what they have is no Owner of any.
	checkTwin(t, c, table([]int{0}, times(0, 20)), "a", 0)
}

// M2: of what Map has, what is no Place, or that of no page of the chip, is passed over.
func TestTwinPassesOverWhatIsNoPage(t *testing.T) {
	c := chip(block("a", ""), block("", "a"))
	for _, data := range []string{"", "a"} {
		for _, m := range append(noPlaces(), 2, 15, 18, 31, 32, 511) {
			checkTwin(t, c, table([]int{m}, nil), data, -1)
			checkTwin(t, c, table([]int{m, 17, m, 16}, []int{m}), data, map[string]int{"": 16, "a": 17}[data])
		}
	}
	// Pages that stand behind a length, or have no Place, are none.
	checkTwin(t, roomy(), table([]int{2, 3, 48, 33}, nil), "c", -1)
	checkTwin(t, roomy(), table([]int{2, 3, 48, 33, 32}, nil), "c", 32)
	long := slices.Repeat([]string{"x"}, 20)
	long[17] = "a"
	checkTwin(t, chip(block(long...), block("x", "x")), table([]int{17, 16, 1}, nil), "a", -1)
	many := api.Chip{Blocks: append(slices.Repeat([]api.Block{block("x")}, 32), block("a"))}
	checkTwin(t, many, table([]int{512}, nil), "a", -1)
}

// M2: a page that has that Data, but that no sector has, is passed over; so are sectors behind a length.
func TestTwinIsHad(t *testing.T) {
	c := chip(block("a", "b", "a"))
	checkTwin(t, c, replay.New(64), "a", -1)
	checkTwin(t, c, table([]int{1, -1}, []int{0, 2}), "a", -1)
	checkTwin(t, c, table([]int{1, 2}, []int{0, 0}), "a", 2)
	checkTwin(t, c, table([]int{2, 0}[:1], nil), "a", 2)
	checkTwin(t, c, table([]int{2, 0}[:0], nil), "a", -1)
}

// M2: nothing is Data as any other: of pages that have none, be they Written or not.
func TestTwinOfNothing(t *testing.T) {
	c := chip(block("a", "", ""), api.Block{Pages: make([]api.Page, 2)})
	checkTwin(t, c, table([]int{0, 2, 16}, nil), "", 2)
	checkTwin(t, c, table([]int{0, 17, 16}, nil), "", 16)
	checkTwin(t, c, table([]int{0, -1, 3}, nil), "", -1)
	checkTwin(t, c, replay.New(9), "", -1)
	checkTwin(t, api.Chip{}, table([]int{0, -1, 3}, nil), "", -1)
}

// M2: -1 of Data that no page has, as alike as they may be: as long, a part, with the same fingerprint.
func TestTwinOfOtherData(t *testing.T) {
	c := chip(block("abc"))
	x := table([]int{0}, []int{0})
	checkTwin(t, c, x, "abc", 0)
	for _, data := range []string{"", "ab", "abcd", "abC", "abc\x00", strings.Repeat("abc", 400)} {
		checkTwin(t, c, x, data, -1)
	}
	for first := range 256 {
		for second := range 256 {
			checkTwin(t, c, x, "\x00"+string([]byte{byte(first), byte(second)}), -1)
		}
	}
}

// M2: of pages with unlike Data, more than there are fingerprints, the one that has them is found.
func TestTwinOfManyData(t *testing.T) {
	var c api.Chip
	for b := range 32 {
		x := block()
		for p := range 16 {
			x.Pages = append(x.Pages, api.Page{Data: strings.Repeat("z", b) + fmt.Sprint(p)})
		}
		c.Blocks = append(c.Blocks, x)
	}
	all := from(0, 512)
	slices.Reverse(all)
	for place := 0; place < 512; place += 5 {
		checkTwin(t, c, table(all, nil), strings.Repeat("z", place/16)+fmt.Sprint(place%16), place)
	}
	checkTwin(t, c, table(all, nil), "z16", -1)
}

// M2: -1 of tables without sectors, and of chips without pages.
func TestTwinOfNone(t *testing.T) {
	for _, data := range []string{"", "a", "abc"} {
		for _, c := range someChips() {
			for _, x := range []api.Table{{}, table([]int{}, nil), table(nil, from(0, 64)), replay.New(0)} {
				checkTwin(t, c, x, data, -1)
			}
		}
		for _, c := range []api.Chip{{}, chip(), chip(api.Block{}, api.Block{}), {Blocks: full().Blocks[:0]}} {
			for _, x := range someTables() {
				checkTwin(t, c, x, data, -1)
			}
		}
	}
}

// M2: of all chips and tables, what the words ask for.
func TestTwinAgainstWords(t *testing.T) {
	for _, c := range someChips() {
		for _, x := range someTables() {
			for n := range 9 {
				checkTwin(t, c, x, textOf(n), twinByWords(c, x, textOf(n)))
			}
			checkTwin(t, c, x, "none", -1)
		}
	}
}

// M3: the Data of the page that a sector's Map is the Place of, whoever says so.
func TestHas(t *testing.T) {
	c := chip(block("a", "", "c"), block("d"))
	x := table([]int{2, 0, 16, 1, 0}, []int{0, 0, 1, 16, -1})
	for sector, want := range []string{"c", "a", "d", "", "a"} {
		checkHas(t, c, x, sector, want)
		checkHas(t, c, table(x.Map, nil), sector, want)
	}
	for place := range 512 {
		checkHas(t, full(), table([]int{-1, place}, []int{0, 0}), 1, textOf(place))
	}
}

// M3: nothing of a sector whose Map is -1, no Place, or the Place of no page of the chip.
func TestHasOfNoPage(t *testing.T) {
	c := chip(block("a", "b"), block("c"))
	for _, m := range append(noPlaces(), -1, 2, 15, 17, 32, 511) {
		for sector, want := range []string{"b", "", "c"} {
			checkHas(t, c, table([]int{1, m, 16}, []int{0, 0, 0}), sector, want)
		}
		checkHas(t, api.Chip{}, table([]int{m}, nil), 0, "")
	}
	checkHas(t, roomy(), table([]int{2, 48, 33}, nil), 0, "")
	checkHas(t, roomy(), table([]int{2, 48, 33}, nil), 1, "")
	checkHas(t, roomy(), table([]int{2, 48, 33}, nil), 2, "")
	checkHas(t, unlike(), table([]int{512}, nil), 0, "")
}

// M3: nothing of what is no sector: below 0, and from as many as there are on, also where some stand behind the length.
func TestHasOfNoSector(t *testing.T) {
	c := chip(block("a", "b"))
	for n := range 5 {
		x := table(times(1, 6)[:n], times(0, 6))
		for _, sector := range append(edges(), from(-3, 12)...) {
			want := ""
			if sector >= 0 && sector < n {
				want = "b"
			}
			checkHas(t, c, x, sector, want)
		}
	}
}

// M3: of all chips, tables and sectors, what the words ask for.
func TestHasAgainstWords(t *testing.T) {
	for _, c := range someChips() {
		for _, x := range someTables() {
			for _, sector := range append(edges(), from(0, 60)...) {
				checkHas(t, c, x, sector, hasByWords(c, x, sector))
			}
		}
	}
}

// told is a page that layer 4 makes of a write.
func told(t *testing.T, w api.Write) api.Page {
	t.Helper()
	page, errno := look.Make(w)
	if errno != api.OK {
		t.Fatalf("no page of %s: %d", shown([]api.Write{w}), errno)
	}
	return page
}

// moved is c, in whose blocks from first on, that are erased, the moves of block b are written, with Seqs behind all others; and
// the table that it tells, which is that of c to which the moves are Applied.
func moved(t *testing.T, c api.Chip, sectors, b, first int) (api.Chip, api.Table) {
	t.Helper()
	x, seq := replay.Replay(c, sectors)
	at := first
	for _, w := range Moves(c, x, b) {
		if c.Blocks[at].Next == len(c.Blocks[at].Pages) {
			at++
		}
		w.Record.Seq = seq
		seq++
		place := scan.Place(at, c.Blocks[at].Next)
		x = replay.Apply(x, api.Found{Place: place, Record: w.Record})
		after, errno := nand.Program(c, at, c.Blocks[at].Next, told(t, w), api.Fate{})
		if errno != api.OK {
			t.Fatalf("not programmed: %d", errno)
		}
		c = after
	}
	replayed, _ := replay.Replay(c, sectors)
	if !reflect.DeepEqual(replayed, x) {
		t.Fatalf("replayed: %v, Applied: %v", replayed, x)
	}
	return c, x
}

// checkTheorem holds M4 against a chip that layer 5 made, whose blocks from first on are erased, of so many sectors.
func checkTheorem(t *testing.T, c api.Chip, sectors, first int) {
	t.Helper()
	c = nand.On(c)
	before, _ := replay.Replay(c, sectors)
	for b := range first {
		after, x := moved(t, c, sectors, b, first)
		if n := live.Count(x, b); n != 0 {
			t.Fatalf("%d pages of block %d are wanted: %v, was %v", n, b, x, before)
		}
		checkKept(t, c, before, after, x)
		if after.Blocks[b].Bad {
			continue
		}
		erased, _ := nand.Erase(after, b, api.Fate{})
		x, _ = replay.Replay(erased, sectors)
		checkKept(t, c, before, erased, x)
	}
	checkTwins(t, c, before)
}

// checkKept wants that each sector has behind what it had before.
func checkKept(t *testing.T, c api.Chip, before api.Table, behind api.Chip, after api.Table) {
	t.Helper()
	for sector := range before.Map {
		if had, has := Has(c, before, sector), Has(behind, after, sector); had != has {
			t.Fatalf("sector %d had %q, has %q: %v, %v", sector, had, has, before, after)
		}
	}
}

// checkTwins wants that what Twin tells has those data, and one more sector to which it is changed has them, too.
func checkTwins(t *testing.T, c api.Chip, x api.Table) {
	t.Helper()
	for sector := range x.Map {
		data := Has(c, x, sector)
		checkTwin(t, c, x, data, twinByWords(c, x, data))
		place := Twin(c, x, data)
		if place < 0 {
			continue
		}
		page, ok := scan.Page(c, place)
		changed := replay.Apply(x, api.Found{Place: 9, Record: api.Record{Kind: api.Change, Keys: []int{0}, Values: []int{place}}})
		if !ok || page.Data != data || Has(c, changed, 0) != data || len(live.Owners(changed, place)) > 8 {
			t.Fatalf("the twin of %q is %d, of %v", data, place, x)
		}
	}
}

// someWrites are writes that the theorem's first chips are made of, also such as say that a sector has a place without a page.
func someWrites() []api.Write {
	return []api.Write{
		dataOf("a", 0), dataOf("b", 1), dataOf("", 0, 1), changeOf([]int{0}, []int{-1}), changeOf([]int{1}, []int{0}),
		changeOf([]int{0, 1}, []int{1, 16}), changeOf([]int{0}, []int{5}), changeOf([]int{1}, []int{40}),
	}
}

// M4: all ways of three programs and erases behind one another, of two blocks of two pages, and one for what is moved.
func TestTheoremOfAFewSteps(t *testing.T) {
	var walk func(c api.Chip, depth int)
	walk = func(c api.Chip, depth int) {
		checkTheorem(t, c, 2, 2)
		if depth == 0 {
			return
		}
		for b := range 2 {
			next := c.Blocks[b].Next
			for _, w := range someWrites() {
				if next < 2 {
					w.Record.Seq = 3 - depth
					written, _ := nand.Program(c, b, next, told(t, w), api.Fate{})
					walk(written, depth-1)
				}
			}
			torn, _ := nand.Program(c, b, next, api.Page{}, api.Fate{Kind: api.Fail, Data: "a"})
			walk(torn, depth-1)
			erased, _ := nand.Erase(c, b, api.Fate{})
			walk(erased, depth-1)
		}
	}
	c, _ := nand.New(3, 2, nil)
	walk(c, 3)
}

// run is a chip behind many programs and erases of layer 5, some of which fail or are cut, of its first blocks.
func run(t *testing.T, seed uint32, blocks, first, pages, sectors int, check func(c api.Chip)) {
	t.Helper()
	c, _ := nand.New(blocks, pages, nil)
	random := func(n int) int {
		seed = seed*1664525 + 1013904223
		return int(seed>>8) % n
	}
	for seq := range 150 {
		b := random(first)
		r := api.Record{Kind: api.Data, Seq: seq, Keys: from(random(sectors), 1+random(8))}
		r.Keys = slices.DeleteFunc(r.Keys, func(key int) bool { return key >= sectors })
		if random(2) == 0 {
			r.Kind = api.Change
			for range r.Keys {
				r.Values = append(r.Values, random(3)*random(16*first)-1)
			}
			for i, value := range r.Values {
				// Pages into which something is moved are to be had by none.
				r.Values[i] = min(value, 16*first-1)
			}
		}
		w := api.Write{Record: r}
		if r.Kind == api.Data {
			w.Data = textOf(random(5))
		}
		fate := api.Fate{Data: "torn", N: random(4)}
		if lot := random(40); lot < 3 {
			fate.Kind = []int{api.Cut, api.Cut, api.Fail}[lot]
		}
		switch at := c.Blocks[b]; {
		case at.Bad:
		case at.Next == pages || random(12) == 0:
			c, _ = nand.Erase(c, b, fate)
		default:
			c, _ = nand.Program(c, b, at.Next, told(t, w), fate)
		}
		check(c)
		c = nand.On(c)
	}
	if c.Broken {
		t.Fatal("the chip is Broken")
	}
}

// M4: over long runs, of few sectors and of many, so that pages have more Owners, and more to say, than a record has Keys.
func TestTheoremOverRuns(t *testing.T) {
	for seed := range uint32(6) {
		sectors := []int{5, 30, 64}[seed%3]
		parts := 0
		run(t, seed, 20, 4, []int{4, 16, 9}[seed%3], sectors, func(c api.Chip) {
			checkTheorem(t, c, sectors, 4)
			x, _ := replay.Replay(c, sectors)
			for b := range 4 {
				checkMoves(t, c, x, b, movesByWords(c, x, b)...)
				parts += len(Moves(c, x, b))
			}
		})
		if parts < 100 {
			t.Errorf("only %d moves", parts)
		}
	}
}

// M4: where all sectors have one page, and one page says so, there is more than one part of each.
func TestTheoremOfManyOwners(t *testing.T) {
	for sectors := 1; sectors <= 64; sectors++ {
		c, _ := nand.New(8, 16, nil)
		c, _ = nand.Program(c, 0, 0, told(t, dataOf("a", 0)), api.Fate{})
		for i, keys := range partsByWords(from(0, sectors)) {
			w := changeOf(keys, times(0, len(keys)))
			w.Record.Seq = i + 1
			c, _ = nand.Program(c, 1, i, told(t, w), api.Fate{})
		}
		checkTheorem(t, c, sectors, 2)
		x, _ := replay.Replay(c, sectors)
		if got, want := len(Moves(c, x, 0)), (sectors+7)/8; got != want {
			t.Fatalf("%d sectors: %d moves, want %d", sectors, got, want)
		}
		if got, want := len(Moves(c, x, 1)), (sectors+7)/8; got != want {
			t.Fatalf("%d sectors: %d moves of what is said, want %d", sectors, got, want)
		}
	}
}

// answers are what all calls of the package tell of a chip and a table, of blocks, sectors and data at all edges.
type answers struct {
	moves [][]api.Write
	twins []int
	has   []string
}

// askAll calls all of the package.
func askAll(c api.Chip, x api.Table) answers {
	var out answers
	for _, n := range edges() {
		out.moves, out.has = append(out.moves, Moves(c, x, n)), append(out.has, Has(c, x, n))
	}
	for n := range 9 {
		out.twins = append(out.twins, Twin(c, x, textOf(n)))
	}
	return out
}

// spoil writes into all lists of what Moves answers, up to their capacities.
func spoil(writes []api.Write) {
	for i := range writes {
		for _, list := range [][]int{writes[i].Record.Keys, writes[i].Record.Values} {
			for j := range list[:cap(list)] {
				list[:cap(list)][j] = -99
			}
		}
	}
}

// whole is a copy of a list with what stands behind its length, up to its capacity.
func whole[T any](list []T) []T { return slices.Clone(list[:cap(list)]) }

// wholeChip is a copy of c with what stands behind the lengths of its lists, too.
func wholeChip(c api.Chip) api.Chip {
	c.Blocks = whole(c.Blocks)
	for b := range c.Blocks {
		c.Blocks[b].Pages = whole(c.Blocks[b].Pages)
	}
	return c
}

// R3: no chip and no table that is handed in has changed behind any call, nor what stands behind their lists' lengths, not even
// where one writes into what came out.
func TestNothingIsWrittenInto(t *testing.T) {
	for _, c := range someChips() {
		for _, x := range someTables() {
			chipBefore, mapBefore, byBefore := wholeChip(c), whole(x.Map), whole(x.By)
			for _, writes := range askAll(c, x).moves {
				spoil(writes)
			}
			if !reflect.DeepEqual(wholeChip(c), chipBefore) {
				t.Fatalf("the chip has become %+v, was %+v", c, chipBefore)
			}
			if !slices.Equal(whole(x.Map), mapBefore) || !slices.Equal(whole(x.By), byBefore) {
				t.Fatalf("the table has become %v, was %v, %v", x, mapBefore, byBefore)
			}
		}
	}
}

// R3: no two lists of an answer share memory: who writes into the one, or appends to it, writes into no other one.
func TestListsOfAnAnswerAreApart(t *testing.T) {
	c := chip(block("a", "b"))
	x := table(slices.Concat(times(0, 17), times(1, 17), times(-1, 17), times(16, 17)), slices.Concat(times(0, 50), times(1, 18)))
	want := Moves(c, x, 0)
	if len(want) != 11 {
		t.Fatalf("%d moves", len(want))
	}
	for i := range want {
		got := Moves(c, x, 0)
		spoil(got[i : i+1])
		_, _ = append(got[i].Record.Keys, -98), append(got[i].Record.Values, -98)
		for j := range got {
			if i != j && !sameWrite(got[j], want[j]) {
				t.Fatalf("writing into move %d changes move %d", i, j)
			}
		}
	}
}

// R4: the same arguments have the same answer, whatever was called between, and how often.
func TestNoCallLeavesATrace(t *testing.T) {
	var first []answers
	for range 2 {
		var now []answers
		for _, c := range someChips() {
			for _, x := range someTables() {
				now = append(now, askAll(c, x))
			}
		}
		if first != nil && !reflect.DeepEqual(first, now) {
			t.Fatal("the second answers are others than the first ones")
		}
		first = now
	}
}

// M1 to M3: whether the chip is Off or Broken, a block is Bad, and what pages have beside their Data, makes no difference.
func TestOnlyDataMatter(t *testing.T) {
	for _, c := range someChips() {
		other := api.Chip{Off: true, Broken: true, Ops: -3}
		for _, b := range c.Blocks {
			x := api.Block{Next: -7, Erases: 9, Bad: true}
			for _, page := range b.Pages {
				x.Pages = append(x.Pages, api.Page{Data: page.Data})
			}
			other.Blocks = append(other.Blocks, x)
		}
		for _, x := range someTables() {
			if !reflect.DeepEqual(askAll(c, x), askAll(other, x)) {
				t.Fatalf("of %+v: %v", c, x)
			}
		}
	}
}
