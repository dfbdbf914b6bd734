package live

import (
	"math"
	"slices"
	"strconv"
	"testing"

	"clinker/api"
	"clinker/look"
	"clinker/nand"
	"clinker/replay"
	"clinker/scan"
)

// table is a table of these lists.
func table(places, by []int) api.Table { return api.Table{Map: places, By: by} }

// sameTable tells whether two tables have the same lists; an empty one is as good as none.
func sameTable(a, b api.Table) bool {
	return slices.Equal(a.Map, b.Map) && slices.Equal(a.By, b.By)
}

// whole is a copy of t with what stands behind the lengths of its lists, too, up to their capacities.
func whole(t api.Table) api.Table {
	return table(slices.Clone(t.Map[:cap(t.Map)]), slices.Clone(t.By[:cap(t.By)]))
}

// example is the chapter's table.
func example() api.Table { return table([]int{5, -1, 5}, []int{5, 6, 7}) }

// places are the numbers from first to below end.
func places(first, end int) []int {
	var out []int
	for place := first; place < end; place++ {
		out = append(out, place)
	}
	return out
}

// times is a list that has a number so many times.
func times(number, count int) []int { return slices.Repeat([]int{number}, count) }

// edges are numbers at the edges of places, of blocks, and of int, some of which wrap round when they are multiplied by 16.
func edges() []int {
	return []int{
		math.MinInt, math.MinInt + 1, math.MinInt + 15, math.MinInt / 16, -1 << 60, -1 << 32, -513, -512, -33, -32, -17, -16, -15, -2, -1,
		0, 1, 2, 5, 6, 7, 15, 16, 17, 30, 31, 32, 33, 63, 64, 495, 496, 510, 511, 512, 513, 527, 528, 600,
		1 << 32, 1<<32 + 5, 1 << 40, math.MaxInt / 16, math.MaxInt/16 + 1, 1 << 60, 1<<60 + 1, math.MaxInt - 15, math.MaxInt - 1, math.MaxInt,
	}
}

// great is a table of far more sectors than layer 7 makes, with many places more than once.
func great() api.Table {
	t := table(make([]int, 5000), make([]int, 4000))
	for sector := range t.Map {
		t.Map[sector] = sector*211%700 - 20
	}
	for sector := range t.By {
		t.By[sector] = sector * sector % 1009
	}
	return t
}

// roomy is a table with sectors behind the lengths of its lists; both stand in one list.
func roomy() api.Table {
	all := []int{5, 6, 5, 9, 40, 5, 7, 8, 41, 511}
	return table(all[:3], all[4:7])
}

// someTables are tables of all kinds.
func someTables() []api.Table {
	return []api.Table{
		{}, table([]int{}, []int{}), replay.New(0), replay.New(1), replay.New(64),
		example(), great(), roomy(),
		table(edges(), nil), table(nil, edges()), table(edges(), edges()), table(edges(), places(-3, 20)),
		table([]int{5, 6, 7, 5}, []int{5}), table([]int{5}, []int{5, 6, 7, 5}),
		table(places(0, 512), places(0, 512)), table(places(496, 530), times(3, 64)), table(times(-1, 64), places(16, 80)),
	}
}

// small tells each table whose lists have up to two sectors, of few places.
func small(tell func(api.Table)) {
	few := []int{-1, 0, 1, 16}
	lists := [][]int{nil}
	for _, x := range few {
		lists = append(lists, []int{x})
		for _, y := range few {
			lists = append(lists, []int{x, y})
		}
	}
	for _, first := range lists {
		for _, second := range lists {
			tell(table(first, second))
		}
	}
}

// with is what H1 asks of one list, by its words.
func with(list []int, place int) []int {
	var out []int
	for sector := 0; sector < len(list); sector++ {
		if list[sector] == place && place > -1 {
			out = append(out, sector)
		}
	}
	return out
}

// counted is what H3 asks, by its words, of the places 16 times b to below 16 times b + 1.
func counted(t api.Table, b int) int {
	count := 0
	if b > -1 && b < 32 {
		for place := 16 * b; place < 16*b+16; place++ {
			if len(with(t.Map, place))+len(with(t.By, place)) > 0 {
				count++
			}
		}
	}
	return count
}

// checkOwners holds what Owners answers against what is wanted.
func checkOwners(t *testing.T, x api.Table, place int, want ...int) {
	t.Helper()
	if got := Owners(x, place); !slices.Equal(got, want) {
		t.Errorf("Owners of %d = %v, want %v, of %v", place, got, want, x)
	}
}

// checkSays holds what Says answers against what is wanted.
func checkSays(t *testing.T, x api.Table, place int, want ...int) {
	t.Helper()
	if got := Says(x, place); !slices.Equal(got, want) {
		t.Errorf("Says of %d = %v, want %v, of %v", place, got, want, x)
	}
}

// checkLive wants that places are Live.
func checkLive(t *testing.T, x api.Table, places ...int) {
	t.Helper()
	for _, place := range places {
		if !Live(x, place) {
			t.Errorf("%d is not Live, of %v", place, x)
		}
	}
}

// checkDead wants that places are not Live.
func checkDead(t *testing.T, x api.Table, places ...int) {
	t.Helper()
	for _, place := range places {
		if Live(x, place) {
			t.Errorf("%d is Live, of %v", place, x)
		}
	}
}

// checkCount holds what Count answers against what is wanted.
func checkCount(t *testing.T, x api.Table, b, want int) {
	t.Helper()
	if got := Count(x, b); got != want {
		t.Errorf("Count of the block %d = %d, want %d, of %v", b, got, want, x)
	}
}

// H1, H2 and H3: the chapter's example.
func TestTheExample(t *testing.T) {
	checkOwners(t, example(), 5, 0, 2)
	checkSays(t, example(), 6, 1)
	live := 0
	for place := -600; place < 600; place++ {
		if Live(example(), place) {
			live++
		}
	}
	if live != 3 {
		t.Errorf("%d places are Live", live)
	}
	checkCount(t, example(), 0, 3)
	checkCount(t, example(), 1, 0)
}

// H1: Owners go by Map alone, Says by By alone.
func TestOwnersAndSaysAreApart(t *testing.T) {
	x := table([]int{5, 6, 5, 8}, []int{9, 5, 9, 6})
	checkOwners(t, x, 5, 0, 2)
	checkSays(t, x, 5, 1)
	checkOwners(t, x, 6, 1)
	checkSays(t, x, 6, 3)
	checkOwners(t, x, 8, 3)
	checkSays(t, x, 8)
	checkOwners(t, x, 9)
	checkSays(t, x, 9, 0, 2)
	checkOwners(t, x, 7)
	checkSays(t, x, 7)
}

// H1: no sector has a place below 0, nor is one said by it, even where the table has that number.
func TestOwnersAndSaysBelowZero(t *testing.T) {
	below := []int{-1, -2, -5, -16, -512, -1 << 32, math.MinInt + 1, math.MinInt}
	for _, x := range []api.Table{{}, example(), replay.New(64), table(below, below), table(times(-2, 9), times(math.MinInt, 9))} {
		for _, place := range below {
			checkOwners(t, x, place)
			checkSays(t, x, place)
		}
	}
}

// H1: places at the edges, which need not be those of pages.
func TestOwnersAndSaysAtTheEdges(t *testing.T) {
	for _, place := range []int{0, 1, 15, 16, 511, 512, 600, 1 << 32, 1 << 40, math.MaxInt - 1, math.MaxInt} {
		x := table([]int{place, -1, place, place - 1, place}, []int{-1, place, 3000, place, -1})
		checkOwners(t, x, place, 0, 2, 4)
		checkSays(t, x, place, 1, 3)
		checkOwners(t, example(), place)
		checkSays(t, example(), place)
	}
}

// H1: tables without sectors, and such as have the one list alone.
func TestOwnersAndSaysOfNoSectors(t *testing.T) {
	for _, place := range edges() {
		for _, x := range []api.Table{{}, table([]int{}, nil), table(nil, []int{}), replay.New(0)} {
			checkOwners(t, x, place)
			checkSays(t, x, place)
		}
		checkOwners(t, table(nil, []int{place, place}), place)
		checkSays(t, table([]int{place, place}, nil), place)
	}
}

// H1: lists of unlike lengths: each is gone through to its own end.
func TestOwnersAndSaysOfUnlikeLists(t *testing.T) {
	long, short := []int{5, 6, 6, 5, 5}, []int{6, 5}
	checkOwners(t, table(long, short), 5, 0, 3, 4)
	checkSays(t, table(long, short), 5, 1)
	checkOwners(t, table(short, long), 5, 1)
	checkSays(t, table(short, long), 5, 0, 3, 4)
	checkOwners(t, table(long, nil), 6, 1, 2)
	checkSays(t, table(nil, long), 6, 1, 2)
}

// H1: what stands behind the lengths of the lists is no sector.
func TestOwnersAndSaysBehindTheLengths(t *testing.T) {
	checkOwners(t, roomy(), 5, 0, 2)
	checkSays(t, roomy(), 5, 1)
	for _, place := range []int{8, 9, 41, 511} {
		checkOwners(t, roomy(), place)
		checkSays(t, roomy(), place)
	}
}

// H1: all sectors of one place, of as many as layer 7 makes and of more, in their order.
func TestOwnersAndSaysOfAllSectors(t *testing.T) {
	for _, n := range []int{1, 8, 9, 63, 64, 65, 1000, 1 << 16} {
		x := table(times(7, n), times(8, n))
		checkOwners(t, x, 7, places(0, n)...)
		checkSays(t, x, 8, places(0, n)...)
		checkOwners(t, x, 8)
		checkSays(t, x, 7)
	}
}

// H1: what is told is rising, and each of a table's numbers from 0 on is told of just one place, of all tables.
func TestOwnersAndSaysAreRising(t *testing.T) {
	for _, x := range someTables() {
		told := 0
		for place := range 1100 {
			for _, sectors := range [][]int{Owners(x, place), Says(x, place)} {
				told += len(sectors)
				for i := 1; i < len(sectors); i++ {
					if sectors[i-1] >= sectors[i] {
						t.Fatalf("%v is not rising", sectors)
					}
				}
			}
		}
		want := 0
		for _, place := range slices.Concat(x.Map, x.By) {
			if place >= 0 && place < 1100 {
				want++
			}
		}
		if told != want {
			t.Errorf("%d sectors are told, want %d", told, want)
		}
	}
}

// H1: whoever wants no more sectors is told no more: a range over them may be left.
func TestSectorsMayBeLeft(t *testing.T) {
	var told []int
	for sector := range sectors([]int{5, 6, 5, 5}, 5) {
		told = append(told, sector)
		if len(told) == 2 {
			break
		}
	}
	if !slices.Equal(told, []int{0, 2}) {
		t.Errorf("%v are told", told)
	}
}

// H2: places that only Map has, that only By has, that both have, and that none has.
func TestLive(t *testing.T) {
	x := table([]int{3, 9, -1, 9, 511}, []int{4, 9, 6, 7, 4})
	checkLive(t, x, 3, 511)
	checkLive(t, x, 4, 6, 7)
	checkLive(t, x, 9)
	checkDead(t, x, 0, 1, 2, 5, 8, 10, 16, 510, 512, math.MaxInt)
	checkLive(t, table([]int{0}, nil), 0)
	checkLive(t, table(nil, []int{0}), 0)
	checkDead(t, table([]int{-1}, []int{-1}), 0)
	checkDead(t, replay.New(64), places(-2, 520)...)
}

// H2: a list may be longer than the other one: all of it counts, and what stands behind its length does not.
func TestLiveOfUnlikeLists(t *testing.T) {
	long, short := []int{5, 6, 7, 8}, []int{9, 10}
	for _, x := range []api.Table{table(long, short), table(short, long), table(long, nil), table(nil, long)} {
		checkLive(t, x, 5, 6, 7, 8)
		checkDead(t, x, 0, 4, 11)
	}
	checkLive(t, table(long, short), 9, 10)
	checkLive(t, table(short, long), 9, 10)
	checkLive(t, roomy(), 5, 6, 7, 40)
	checkDead(t, roomy(), 8, 9, 41, 511)
}

// H2: no place below 0 is Live; beyond all pages that there may be a place is, if a sector has it.
func TestLiveAtTheEdges(t *testing.T) {
	for _, place := range edges() {
		alone := []int{place}
		for _, x := range []api.Table{table(alone, nil), table(nil, alone), table(alone, alone), table(edges(), edges())} {
			if place < 0 {
				checkDead(t, x, place)
			} else {
				checkLive(t, x, place)
			}
		}
		checkDead(t, api.Table{}, place)
	}
}

// H3: blocks none, some and all of whose places are Live, by Map, by By, and by both.
func TestCount(t *testing.T) {
	checkCount(t, table(places(16, 32), nil), 1, 16)
	checkCount(t, table(nil, places(16, 32)), 1, 16)
	checkCount(t, table(places(16, 24), places(24, 32)), 1, 16)
	checkCount(t, table(places(16, 28), places(20, 32)), 1, 16)
	checkCount(t, table(places(16, 31), nil), 1, 15)
	checkCount(t, table(nil, places(17, 32)), 1, 15)
	checkCount(t, table([]int{16, -1, 31}, []int{20, 33, 15}), 1, 3)
	for _, b := range []int{0, 2, 31} {
		checkCount(t, table(places(16, 32), places(16, 32)), b, 0)
	}
	checkCount(t, replay.New(64), 0, 0)
	checkCount(t, api.Table{}, 0, 0)
}

// H3: each block counts its own places, up to the edges of the blocks beside it.
func TestCountOfEachBlock(t *testing.T) {
	for b := range 32 {
		for _, place := range []int{16 * b, 16*b + 1, 16*b + 14, 16*b + 15} {
			for other := range 32 {
				want := 0
				if other == b {
					want = 1
				}
				checkCount(t, table([]int{place}, nil), other, want)
				checkCount(t, table(nil, []int{place}), other, want)
			}
		}
		checkCount(t, table(places(0, 16*b), places(16*b+16, 600)), b, 0)
		checkCount(t, table(places(0, 16*b+1), places(16*b+15, 600)), b, 2)
		checkCount(t, table(places(0, 600), nil), b, 16)
	}
}

// H3: a place that several sectors have, in one list or in both, counts once.
func TestCountOfSharedPlaces(t *testing.T) {
	checkCount(t, table(times(5, 64), times(5, 64)), 0, 1)
	checkCount(t, table(times(5, 64), times(6, 64)), 0, 2)
	checkCount(t, table([]int{5, 6, 5, 6, 7}, []int{6, 5, 8, 8, 5}), 0, 4)
	checkCount(t, table(slices.Repeat(places(0, 16), 4), slices.Repeat(places(8, 24), 4)), 0, 16)
	checkCount(t, table(slices.Repeat(places(0, 16), 4), slices.Repeat(places(8, 24), 4)), 1, 8)
}

// H3: blocks that may not be, also such whose number wraps round to that of one that may: 0, whatever is Live.
func TestCountOfWrongBlocks(t *testing.T) {
	for _, x := range append(someTables(), table(places(-600, 1200), places(-600, 1200))) {
		for _, b := range edges() {
			if b < 0 || b >= 32 {
				checkCount(t, x, b, 0)
			}
		}
	}
	full := table(places(-600, 1200), nil)
	checkCount(t, full, -1, 0)
	checkCount(t, full, 0, 16)
	checkCount(t, full, 31, 16)
	checkCount(t, full, 32, 0)
}

// H3: places past the last block, and below 0, are none of any block.
func TestCountOfPlacesOfNoBlock(t *testing.T) {
	var far []int
	for _, place := range edges() {
		if place < 0 || place >= 512 {
			far = append(far, place)
		}
	}
	for _, x := range []api.Table{table(far, nil), table(nil, far), table(far, far), table(places(512, 1100), places(-600, 0))} {
		for b := -2; b < 80; b++ {
			checkCount(t, x, b, 0)
		}
	}
	checkCount(t, table(append(far, 511), far), 31, 1)
}

// checkByWords holds all calls against the words of H1, H2 and H3, of one table.
func checkByWords(t *testing.T, x api.Table, places, blocks []int) {
	t.Helper()
	for _, place := range places {
		owners, says := with(x.Map, place), with(x.By, place)
		checkOwners(t, x, place, owners...)
		checkSays(t, x, place, says...)
		if got, want := Live(x, place), len(owners)+len(says) > 0; got != want {
			t.Errorf("Live of %d = %t, of %v", place, got, x)
		}
	}
	for _, b := range blocks {
		checkCount(t, x, b, counted(x, b))
	}
}

// H1, H2 and H3: all calls of tables of all kinds, and of all small ones.
func TestAllByTheirWords(t *testing.T) {
	for _, x := range someTables() {
		checkByWords(t, x, edges(), append(edges(), places(0, 32)...))
	}
	small(func(x api.Table) { checkByWords(t, x, []int{-2, -1, 0, 1, 2, 15, 16, 17}, []int{-1, 0, 1, 2, 32}) })
}

// R3: no call changes the table, nor what stands behind the lengths of its lists.
func TestNothingIsWrittenInto(t *testing.T) {
	for _, x := range someTables() {
		before := whole(x)
		for _, n := range []int{-1, 0, 5, 7, 16, 511, 512, math.MinInt, math.MaxInt} {
			Owners(x, n)
			Says(x, n)
			Live(x, n)
			Count(x, n)
		}
		if !sameTable(whole(x), before) {
			t.Errorf("%v has changed from %v", whole(x), before)
		}
	}
}

// overwrite writes into all of a list, also behind its length.
func overwrite(list []int) {
	list = list[:cap(list)]
	for i := range list {
		list[i] = 77
	}
}

// R4: whoever writes into an answer changes neither the table nor another answer.
func TestAnswersAreApart(t *testing.T) {
	for _, x := range someTables() {
		before := whole(x)
		for _, place := range []int{-1, 0, 5, 6, 7, 511} {
			owners, says := with(x.Map, place), with(x.By, place)
			first, second, third := Owners(x, place), Says(x, place), Owners(x, place)
			overwrite(first)
			if !slices.Equal(second, says) || !slices.Equal(third, owners) {
				t.Errorf("other answers have changed with the first one: %v, %v", second, third)
			}
			overwrite(second)
			overwrite(third)
			checkOwners(t, x, place, owners...)
			checkSays(t, x, place, says...)
		}
		if !sameTable(whole(x), before) {
			t.Errorf("%v has changed from %v", whole(x), before)
		}
	}
}

// R4: what a call answers hangs on no call ahead of it.
func TestNoState(t *testing.T) {
	for range 3 {
		for _, x := range someTables() {
			checkByWords(t, x, []int{-1, 0, 5, 6, 511}, []int{-1, 0, 1, 31, 32})
		}
	}
}

// inAll is how many places are counted of all blocks.
func inAll(x api.Table) int {
	sum := 0
	for b := range api.MaxBlocks {
		sum += Count(x, b)
	}
	return sum
}

// H4: in all no more is counted than Map and By have sectors, together; where all places are unlike, just as many.
func TestAtMostTwiceAsManyAsSectors(t *testing.T) {
	check := func(x api.Table) {
		if sum := inAll(x); sum > len(x.Map)+len(x.By) {
			t.Errorf("%d places are counted, of %v", sum, x)
		}
	}
	for _, x := range someTables() {
		check(x)
	}
	small(check)
	for n := range 65 {
		if sum := inAll(table(places(0, n), places(256, 256+n))); sum != 2*n {
			t.Errorf("%d places are counted, of %d sectors", sum, n)
		}
		if sum := inAll(table(places(100, 100+n), places(100, 100+n))); sum != n {
			t.Errorf("%d places are counted, of %d sectors with a page each", sum, n)
		}
	}
}

// dataAt is a page of data at a place, as it is told.
func dataAt(place int, keys ...int) api.Found {
	return api.Found{Place: place, Record: api.Record{Kind: api.Data, Keys: keys}}
}

// changeAt is a page at a place that says that one sector has another page.
func changeAt(place, key, value int) api.Found {
	return api.Found{Place: place, Record: api.Record{Kind: api.Change, Keys: []int{key}, Values: []int{value}}}
}

// H4: a page of data is Live once it is Applied, of all its sectors, and counted in its block; whatever the table was.
func TestLiveOnceApplied(t *testing.T) {
	for _, place := range []int{0, 1, 15, 16, 300, 511} {
		for _, keys := range [][]int{{0}, {3}, {0, 1, 2, 3}, {2, 2}, {3, 99, -1}} {
			for _, before := range []api.Table{replay.New(4), table(times(7, 4), times(8, 4)), table(times(place, 4), times(9, 4))} {
				after := replay.Apply(before, dataAt(place, keys...))
				checkLive(t, after, place)
				for _, key := range keys {
					if owned := key >= 0 && key < 4; slices.Contains(Owners(after, place), key) != owned || slices.Contains(Says(after, place), key) != owned {
						t.Errorf("sector %d: Owners %v, Says %v", key, Owners(after, place), Says(after, place))
					}
				}
				if Count(after, place/16) < 1 {
					t.Errorf("place %d is not counted", place)
				}
			}
		}
		// A page that tells of no sector of the table is wanted by none.
		checkDead(t, replay.Apply(replay.New(4), dataAt(place, 4, -1)), place)
	}
}

// H4: it stays Live as long as one of its sectors is told of by no other page, whichever sector that is; then no more.
func TestLiveTillAllAreToldOf(t *testing.T) {
	keys := []int{0, 2, 3, 5}
	for last := range keys {
		x := replay.Apply(replay.New(6), dataAt(40, keys...))
		next := 41
		for _, other := range []int{1, 4} {
			x = replay.Apply(x, dataAt(next, other))
			checkLive(t, x, 40)
			next++
		}
		for i, key := range keys {
			if i == last {
				continue
			}
			f := dataAt(next, key)
			if i%2 == 1 {
				f = changeAt(next, key, -1)
			}
			x = replay.Apply(x, f)
			checkLive(t, x, 40)
			next++
		}
		checkOwners(t, x, 40, keys[last])
		checkSays(t, x, 40, keys[last])
		x = replay.Apply(x, changeAt(next, keys[last], -1))
		checkDead(t, x, 40)
		checkLive(t, x, next)
	}
}

// H4: a page whose sectors all are told of by others is Live still, if one of these says that a sector has it.
func TestLiveByAChange(t *testing.T) {
	x := replay.Apply(replay.New(3), dataAt(40, 0))
	x = replay.Apply(x, changeAt(41, 1, 40))
	x = replay.Apply(x, dataAt(42, 0))
	checkLive(t, x, 40, 41, 42)
	checkOwners(t, x, 40, 1)
	checkSays(t, x, 40)
	checkSays(t, x, 41, 1)
	x = replay.Apply(x, changeAt(43, 1, -1))
	checkDead(t, x, 40, 41)
	checkLive(t, x, 42, 43)
}

// written is a chip of three blocks that layer 5 made, whose pages tell of six sectors over and over.
func written(t *testing.T) api.Chip {
	t.Helper()
	c, _ := nand.New(3, 16, nil)
	for i := range 40 {
		r := api.Record{Kind: api.Data, Seq: i, Keys: []int{i * i % 6}}
		if i%3 == 1 {
			r = api.Record{Kind: api.Change, Seq: i, Keys: []int{i * 5 % 6}, Values: []int{i - 1}}
		}
		p, errno := look.Make(api.Write{Data: strconv.Itoa(i), Record: r})
		if errno != api.OK {
			t.Fatalf("no page %d: %d", i, errno)
		}
		if c, errno = nand.Program(c, i/16, i%16, p, api.Fate{}); errno != api.OK {
			t.Fatalf("page %d: %d", i, errno)
		}
	}
	return c
}

// H4: of all that a chip tells, one page after the other: none that alone tells of a sector is given up, and no more is counted than twice as many as sectors.
func TestLiveOfAChip(t *testing.T) {
	x, teller := replay.New(6), map[int]api.Found{}
	for _, f := range scan.All(written(t)) {
		x = replay.Apply(x, f)
		for _, key := range f.Record.Keys {
			teller[key] = f
		}
		for sector, by := range teller {
			checkLive(t, x, by.Place)
			if !slices.Contains(Says(x, by.Place), sector) {
				t.Errorf("%d does not say what sector %d has", by.Place, sector)
			}
			if by.Record.Kind == api.Data && !slices.Contains(Owners(x, by.Place), sector) {
				t.Errorf("sector %d does not have %d", sector, by.Place)
			}
		}
		if sum := inAll(x); sum > 12 || sum < 1 {
			t.Errorf("%d places are counted", sum)
		}
	}
	if len(teller) < 4 {
		t.Fatalf("only %d sectors are told of", len(teller))
	}
	whole, _ := replay.Replay(written(t), 6)
	if !sameTable(whole, x) {
		t.Errorf("replayed: %v, want %v", whole, x)
	}
}
