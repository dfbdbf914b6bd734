package states

import (
	"math"
	"slices"
	"testing"

	"clinker/api"
	"clinker/nand"
)

// The states' numbers, as the chapter has them.
const (
	isFree    = 0
	isOpen    = 1
	isClosed  = 2
	isRetired = 3
)

// sameBlock tells whether two blocks have the same fields; an empty list is as good as none.
func sameBlock(a, b api.Block) bool {
	return slices.Equal(a.Pages, b.Pages) && a.Next == b.Next && a.Erases == b.Erases && a.Bad == b.Bad
}

// sameChip tells whether two chips have the same fields.
func sameChip(a, b api.Chip) bool {
	return slices.EqualFunc(a.Blocks, b.Blocks, sameBlock) && a.Broken == b.Broken && a.Off == b.Off && a.Ops == b.Ops
}

// whole is a copy of c with what stands behind the lengths of its lists, too, up to their capacities.
func whole(c api.Chip) api.Chip {
	c.Blocks = slices.Clone(c.Blocks[:cap(c.Blocks)])
	for b, block := range c.Blocks {
		c.Blocks[b].Pages = slices.Clone(block.Pages[:cap(block.Pages)])
	}
	return c
}

// pages are n pages, those of written Written.
func pages(n int, written ...int) []api.Page {
	out := make([]api.Page, n)
	for _, p := range written {
		out[p] = api.Page{Written: true, Data: "d", Tag: "t"}
	}
	return out
}

// left are n pages with data and tags that are not Written.
func left(n int) []api.Page {
	return slices.Repeat([]api.Page{{Data: "left", Tag: "over"}}, n)
}

// chip is a chip of these blocks.
func chip(blocks ...api.Block) api.Chip { return api.Chip{Blocks: blocks} }

// worn are erased blocks of two pages, with these Erases.
func worn(erases ...int) []api.Block {
	var out []api.Block
	for _, n := range erases {
		out = append(out, api.Block{Pages: pages(2), Erases: n})
	}
	return out
}

// far are numbers that are no Next of any block, nor 0, nor a count of its pages.
func far() []int {
	return []int{math.MinInt, math.MinInt + 1, -1 << 32, -17, -2, -1, 21, 22, 1 << 32, math.MaxInt - 1, math.MaxInt}
}

// around are numbers from -2 to beyond n, and the ends of int.
func around(n int) []int {
	out := []int{math.MinInt, math.MinInt + 1, math.MaxInt - 1, math.MaxInt}
	for i := -2; i <= n+1; i++ {
		out = append(out, i)
	}
	return out
}

// unlike is a chip that no call of layer 5 makes: blocks of unlike counts of pages, with Nexts and Erases at all edges.
func unlike() api.Chip {
	return chip(
		api.Block{},
		api.Block{Next: 1},
		api.Block{Next: -1, Erases: -9},
		api.Block{Pages: pages(1)},
		api.Block{Pages: pages(1), Next: 1, Erases: math.MaxInt},
		api.Block{Pages: pages(3, 2)},
		api.Block{Pages: pages(3, 0), Next: 1, Erases: -3},
		api.Block{Pages: left(3), Erases: 4},
		api.Block{Pages: left(20), Next: 19},
		api.Block{Pages: pages(20), Next: 20},
		api.Block{Pages: pages(20, 19), Next: 16},
		api.Block{Pages: pages(2), Bad: true, Erases: math.MinInt},
		api.Block{Pages: pages(2, 0, 1), Next: 2, Bad: true, Erases: math.MaxInt},
		api.Block{Pages: pages(2), Next: math.MinInt, Erases: -9},
		api.Block{Pages: pages(2, 1), Next: math.MaxInt},
		api.Block{Pages: pages(2), Erases: -3},
		api.Block{Pages: pages(2), Erases: -3},
		api.Block{Erases: -2},
	)
}

// roomy is a chip with blocks and pages behind the lengths of its lists, and a list of pages that two blocks have.
func roomy() api.Chip {
	shared := pages(5, 2, 3, 4)
	blocks := []api.Block{
		{Pages: shared[:2], Erases: 5},
		{Pages: shared[:3], Erases: 1},
		{Pages: shared[:2], Next: 1, Erases: 6},
		{Pages: pages(2), Erases: -7},
		{Pages: pages(2, 0), Next: 1, Erases: 70},
	}
	return chip(blocks[:3]...)
}

// great is a chip of far more blocks than MaxBlocks, of more pages than MaxPages.
func great() api.Chip {
	c := chip(make([]api.Block, 300)...)
	for b := range c.Blocks {
		block := &c.Blocks[b]
		block.Pages, block.Erases, block.Bad = pages(b%40), b*b%97-20, b%11 == 5
		if b%3 == 1 {
			block.Next = b % 41
		}
		if b%4 == 2 && len(block.Pages) > 0 {
			block.Pages[b%len(block.Pages)].Written = true
		}
	}
	return c
}

// made is a chip that layer 5 made, with blocks in all states.
func made() api.Chip {
	c, _ := nand.New(7, 3, []int{5})
	page := api.Page{Data: "d", Tag: "t"}
	for _, at := range [][2]int{{0, 0}, {0, 1}, {0, 2}, {1, 0}, {3, 0}, {4, 0}} {
		c, _ = nand.Program(c, at[0], at[1], page, api.Fate{})
	}
	c, _ = nand.Erase(c, 3, api.Fate{})
	c, _ = nand.Erase(c, 2, api.Fate{Kind: api.Fail})
	c, _ = nand.Erase(c, 4, api.Fate{Kind: api.Cut, N: 3})
	return c
}

// someChips are made ones and ones that are none of layer 5's, some Off, some Broken.
func someChips() []api.Chip {
	out := []api.Chip{
		{}, chip(), chip(api.Block{}), chip(worn(3)...), chip(worn(5, 2, 2, 9)...), unlike(), roomy(), great(), made(), nand.On(made()),
		chip(api.Block{Bad: true}, api.Block{Bad: true, Erases: 8}),
	}
	for _, maker := range []func() api.Chip{unlike, roomy, made} {
		c := maker()
		c.Off, c.Broken, c.Ops = !c.Off, true, math.MinInt
		out = append(out, c)
	}
	return out
}

// small tells each block of up to three pages, with Nexts around them, Written in each way, Bad and not.
func small(tell func(api.Block)) {
	for n := range 4 {
		for next := -2; next <= n+2; next++ {
			for set := range 1 << n {
				block := api.Block{Pages: make([]api.Page, n), Next: next}
				for p := range n {
					block.Pages[p].Written = set>>p&1 == 1
				}
				tell(block)
				block.Bad = true
				tell(block)
			}
		}
	}
}

// stateByWords is what K1's words ask of a block, each of its four by itself.
func stateByWords(c api.Chip, open, b int) int {
	if b < 0 || len(c.Blocks) <= b {
		return isRetired
	}
	block, written := c.Blocks[b], 0
	for _, page := range block.Pages {
		if page.Written {
			written++
		}
	}
	retired := block.Bad
	opened := open == b && 0 <= block.Next && block.Next < len(block.Pages)
	closed := written > 0 || block.Next != 0
	if retired {
		return isRetired
	}
	if opened {
		return isOpen
	}
	if closed {
		return isClosed
	}
	return isFree
}

// checkState holds what State answers against the state that is wanted.
func checkState(t *testing.T, c api.Chip, open, b, want int) {
	t.Helper()
	if got := State(c, open, b); got != want {
		t.Errorf("State(%+v, %d, %d) = %d, want %d", c, open, b, got, want)
	}
}

// checkBlock holds the state of a block, wherever it stands, open or not, against those that are wanted.
func checkBlock(t *testing.T, block api.Block, open, other int) {
	t.Helper()
	for b := range 3 {
		blocks := worn(1, 1, 1)
		blocks[b] = block
		for _, o := range around(3) {
			want := other
			if o == b {
				want = open
			}
			checkState(t, chip(blocks...), o, b, want)
		}
	}
}

// checkMany holds what Many answers of the four states, and of numbers that are none, against the counts that are wanted.
func checkMany(t *testing.T, c api.Chip, open int, want [4]int) {
	t.Helper()
	for state, n := range want {
		if got := Many(c, open, state); got != n {
			t.Errorf("Many(%+v, %d, %d) = %d, want %d", c, open, state, got, n)
		}
	}
	for _, state := range []int{math.MinInt, -4, -3, -2, -1, 4, 5, 8, 1 << 32, 1<<32 + 1, math.MaxInt} {
		if got := Many(c, open, state); got != 0 {
			t.Errorf("Many(%+v, %d, %d) = %d, want 0", c, open, state, got)
		}
	}
}

// checkPick holds what Pick answers against the block that is wanted.
func checkPick(t *testing.T, c api.Chip, open, want int) {
	t.Helper()
	if got := Pick(c, open); got != want {
		t.Errorf("Pick(%+v, %d) = %d, want %d", c, open, got, want)
	}
}

// checkWear holds what Wear answers against what is wanted.
func checkWear(t *testing.T, c api.Chip, least, most int) {
	t.Helper()
	if a, b := Wear(c); a != least || b != most {
		t.Errorf("Wear(%+v) = %d, %d, want %d, %d", c, a, b, least, most)
	}
}

// K1: the states have the chapter's numbers.
func TestNumbersOfStates(t *testing.T) {
	if api.Free != 0 || api.Open != 1 || api.Closed != 2 || api.Retired != 3 {
		t.Errorf("Free %d, Open %d, Closed %d, Retired %d", api.Free, api.Open, api.Closed, api.Retired)
	}
}

// K1 to K4: the chapter's example, of a chip that layer 5 made.
func TestTheExample(t *testing.T) {
	c, _ := nand.New(2, 4, nil)
	c, errno := nand.Program(c, 0, 0, api.Page{Data: "d", Tag: "t"}, api.Fate{})
	if errno != api.OK {
		t.Fatalf("Program: %d", errno)
	}
	checkState(t, c, -1, 0, isClosed)
	checkState(t, c, -1, 1, isFree)
	checkPick(t, c, -1, 1)
	checkMany(t, c, -1, [4]int{1, 0, 1, 0})
	checkWear(t, c, 0, 0)
}

// K1: Retired, where there is no such block; the block that is open makes none.
func TestStateOfNoBlock(t *testing.T) {
	for _, c := range someChips() {
		n := len(c.Blocks)
		for _, b := range []int{math.MinInt, math.MinInt + 1, -1 << 32, -33, -2, -1, n, n + 1, n + 7, 1<<32 + n, math.MaxInt - 1, math.MaxInt} {
			for _, open := range []int{-1, 0, 1, b, n - 1, n, math.MinInt, math.MaxInt} {
				checkState(t, c, open, b, isRetired)
			}
		}
	}
	// What stands behind the length is no block.
	for b := 3; b < 5; b++ {
		checkState(t, roomy(), -1, b, isRetired)
		checkState(t, roomy(), b, b, isRetired)
	}
}

// K1: Retired ahead of all else: a Bad block with room that is open, with Written pages, or with any Next.
func TestStateOfBadBlocks(t *testing.T) {
	for _, block := range []api.Block{
		{}, {Pages: pages(2)}, {Pages: pages(2, 0), Next: 1}, {Pages: pages(2, 0, 1), Next: 2}, {Pages: pages(2, 1)}, {Pages: left(2)},
		{Pages: pages(2), Next: 1, Erases: 9}, {Pages: pages(2), Next: 3}, {Next: 1}, {Pages: pages(2), Next: -1}, {Pages: pages(2), Next: math.MinInt}, {Next: math.MaxInt},
	} {
		block.Bad = true
		checkBlock(t, block, isRetired, isRetired)
	}
}

// K1: Open, with each Next from 0 to below how many pages it has, with Written pages anywhere and without; of no other block.
func TestStateOfTheOpenBlock(t *testing.T) {
	for n := 1; n <= 20; n++ {
		for next := range n {
			other := isClosed
			if next == 0 {
				other = isFree
			}
			checkBlock(t, api.Block{Pages: pages(n), Next: next}, isOpen, other)
			checkBlock(t, api.Block{Pages: left(n), Next: next, Erases: -1}, isOpen, other)
			checkBlock(t, api.Block{Pages: pages(n, next), Next: next}, isOpen, isClosed)
			checkBlock(t, api.Block{Pages: pages(n, 0), Next: next}, isOpen, isClosed)
			checkBlock(t, api.Block{Pages: pages(n, n-1), Next: next, Erases: 3}, isOpen, isClosed)
		}
	}
}

// K1: not Open, where Next is below 0, as many as there are pages, or more, or there are no pages: what it is else.
func TestStateOfTheOpenBlockWithoutRoom(t *testing.T) {
	for n := range 21 {
		for _, next := range append(far(), n, n+1) {
			if next == 0 {
				continue
			}
			checkBlock(t, api.Block{Pages: pages(n), Next: next}, isClosed, isClosed)
			checkBlock(t, api.Block{Pages: left(n), Next: next}, isClosed, isClosed)
			if n > 0 {
				checkBlock(t, api.Block{Pages: pages(n, 0), Next: next}, isClosed, isClosed)
				checkBlock(t, api.Block{Pages: pages(n, n-1), Next: next}, isClosed, isClosed)
			}
		}
	}
	checkBlock(t, api.Block{}, isFree, isFree)
	checkBlock(t, api.Block{Pages: []api.Page{}, Erases: 4}, isFree, isFree)
	checkBlock(t, api.Block{Pages: pages(3, 1)[:0]}, isFree, isFree)
}

// K1: Closed, by one Written page alone, whichever it is, and whatever it has.
func TestStateByWrittenPages(t *testing.T) {
	for n := 1; n <= 20; n++ {
		for p := range n {
			checkBlock(t, api.Block{Pages: pages(n, p)}, isOpen, isClosed)
			bare := pages(n)
			bare[p].Written = true
			checkBlock(t, api.Block{Pages: bare}, isOpen, isClosed)
		}
	}
}

// K1: Closed, by Next alone, whichever number it is but 0.
func TestStateByNext(t *testing.T) {
	for _, next := range append(far(), 2, 3, 16, 17, 20) {
		checkBlock(t, api.Block{Pages: pages(2), Next: next}, isClosed, isClosed)
		checkBlock(t, api.Block{Next: next}, isClosed, isClosed)
	}
	checkBlock(t, api.Block{Pages: pages(2), Next: 1}, isOpen, isClosed)
	checkBlock(t, api.Block{Next: 1}, isClosed, isClosed)
}

// K1: Free, whatever its Erases, whatever pages that are not Written have, and whatever stands behind the pages' length.
func TestStateOfFreeBlocks(t *testing.T) {
	for _, erases := range append(far(), 0, 1) {
		checkBlock(t, api.Block{Pages: pages(2), Erases: erases}, isOpen, isFree)
		checkBlock(t, api.Block{Pages: left(16), Erases: erases}, isOpen, isFree)
		checkBlock(t, api.Block{Erases: erases}, isFree, isFree)
	}
	checkBlock(t, api.Block{Pages: pages(4, 2, 3)[:2]}, isOpen, isFree)
}

// K1: what a chip is beside its blocks makes no difference, nor what its other blocks are.
func TestStateLooksAtTheBlockAlone(t *testing.T) {
	small(func(block api.Block) {
		for _, open := range []int{-1, 0, 1} {
			want := stateByWords(chip(block), open, 0)
			for _, other := range []api.Block{{}, {Bad: true}, {Pages: pages(2, 0, 1), Next: 2, Erases: 5}, {Pages: pages(2)}} {
				for _, flag := range []bool{false, true} {
					c := api.Chip{Blocks: []api.Block{block, other}, Off: flag, Broken: flag, Ops: -3}
					checkState(t, c, open, 0, want)
					c.Broken = !flag
					checkState(t, c, open, 0, want)
				}
			}
		}
	})
}

// K1: blocks of up to three pages of all kinds, and all chips, held against the words.
func TestStateAgainstWords(t *testing.T) {
	small(func(block api.Block) {
		c := chip(api.Block{Pages: pages(1)}, block)
		for open := -2; open <= 2; open++ {
			checkState(t, c, open, 1, stateByWords(c, open, 1))
		}
	})
	for _, c := range someChips() {
		for _, b := range around(len(c.Blocks)) {
			for _, open := range []int{math.MinInt, -1, 0, 1, b - 1, b, b + 1, len(c.Blocks) - 1, len(c.Blocks), math.MaxInt} {
				checkState(t, c, open, b, stateByWords(c, open, b))
			}
		}
	}
}

// K2: of a chip whose counts are written out, with each block open, and with none.
func TestMany(t *testing.T) {
	c := chip(
		api.Block{Pages: pages(2)},
		api.Block{Pages: pages(2, 0), Next: 1},
		api.Block{Pages: pages(2, 0, 1), Next: 2},
		api.Block{Pages: pages(2), Bad: true},
		api.Block{Pages: pages(2)},
		api.Block{Pages: pages(2), Next: 1},
		api.Block{Pages: pages(2)},
		api.Block{Pages: pages(2, 0), Next: 1, Bad: true},
		api.Block{Pages: pages(2)},
	)
	none := [4]int{4, 0, 3, 2}
	for _, open := range []int{math.MinInt, -1, 9, math.MaxInt, 2, 3, 7} {
		checkMany(t, c, open, none)
	}
	for _, open := range []int{0, 4, 6, 8} {
		checkMany(t, c, open, [4]int{3, 1, 3, 2})
	}
	for _, open := range []int{1, 5} {
		checkMany(t, c, open, [4]int{4, 1, 2, 2})
	}
}

// K2: of chips all of whose blocks are in the same state.
func TestManyOfOneState(t *testing.T) {
	for n := range 40 {
		checkMany(t, chip(slices.Repeat([]api.Block{{Pages: pages(2)}}, n)...), -1, [4]int{n, 0, 0, 0})
		checkMany(t, chip(slices.Repeat([]api.Block{{Pages: pages(2, 1)}}, n)...), n, [4]int{0, 0, n, 0})
		checkMany(t, chip(slices.Repeat([]api.Block{{Bad: true}}, n)...), 0, [4]int{0, 0, 0, n})
	}
	checkMany(t, chip(worn(0)...), 0, [4]int{0, 1, 0, 0})
}

// K2: none of a chip without blocks; what stands behind the length is no block.
func TestManyOfNoBlocks(t *testing.T) {
	for _, open := range around(2) {
		checkMany(t, api.Chip{}, open, [4]int{})
		checkMany(t, chip(), open, [4]int{})
		checkMany(t, api.Chip{Blocks: roomy().Blocks[:0]}, open, [4]int{})
	}
	checkMany(t, roomy(), -1, [4]int{1, 0, 2, 0})
	checkMany(t, roomy(), 3, [4]int{1, 0, 2, 0})
	checkMany(t, roomy(), 4, [4]int{1, 0, 2, 0})
}

// K2: how many blocks State tells of that state; the four add up to how many blocks there are.
func TestManyAgainstWords(t *testing.T) {
	for _, c := range someChips() {
		for _, open := range around(min(len(c.Blocks), 60)) {
			want, sum := [4]int{}, 0
			for b := range c.Blocks {
				want[stateByWords(c, open, b)]++
			}
			checkMany(t, c, open, want)
			for state := range 4 {
				sum += Many(c, open, state)
			}
			if sum != len(c.Blocks) {
				t.Errorf("the four states of %+v, open %d, add up to %d", c, open, sum)
			}
		}
	}
}

// K2 and K3: the iterator tells the blocks of a state, rising, and ends where whoever goes through it leaves it.
func TestBlocksInAState(t *testing.T) {
	c := chip(append(worn(1, 1, 1), api.Block{Bad: true}, api.Block{Pages: pages(1)})...)
	if got := slices.Collect(in(c, 1, isFree)); !slices.Equal(got, []int{0, 2, 4}) {
		t.Errorf("the Free blocks are told as %v", got)
	}
	for b := range in(c, 1, isFree) {
		if b == 2 {
			break
		}
		if b > 2 {
			t.Errorf("block %d is told behind the end", b)
		}
	}
}

// K3: the fewest Erases, wherever they stand, also below 0 and at the ends of int.
func TestPickOfTheFewestErases(t *testing.T) {
	for _, x := range []struct {
		want   int
		erases []int
	}{
		{0, []int{7}}, {0, []int{0}}, {0, []int{1, 2, 3}}, {2, []int{3, 2, 1}}, {1, []int{3, 1, 2}}, {2, []int{2, 3, 1, 4}}, {3, []int{10, 9, 8, 0}},
		{1, []int{0, -1}}, {0, []int{-2, -1}}, {1, []int{5, -5, 0}}, {2, []int{-1, 0, -7, -6}},
		{1, []int{math.MaxInt, math.MinInt}}, {0, []int{math.MinInt, math.MaxInt}}, {1, []int{math.MaxInt, math.MaxInt - 1}}, {1, []int{math.MinInt + 1, math.MinInt}},
		{0, []int{math.MaxInt}}, {0, []int{math.MinInt}}, {2, []int{math.MaxInt, 0, math.MinInt, -1}}, {1, []int{1 << 40, 1 << 32}},
	} {
		checkPick(t, chip(worn(x.erases...)...), -1, x.want)
	}
}

// K3: the first one of those with the same Erases.
func TestPickOfTheSameErases(t *testing.T) {
	for _, n := range append(far(), 0, 1) {
		checkPick(t, chip(worn(n, n)...), -1, 0)
		checkPick(t, chip(worn(n, n, n, n)...), 9, 0)
		checkPick(t, chip(worn(n, n, n)...), 0, 1)
		checkPick(t, chip(worn(n, n, n)...), 1, 0)
	}
	checkPick(t, chip(worn(5, 3, 4, 3, 3)...), -1, 1)
	checkPick(t, chip(worn(5, 3, 4, 3, 3)...), 1, 3)
	checkPick(t, chip(worn(5, 3, 3, 3, 2, 2)...), -1, 4)
}

// K3: blocks that are not Free are passed over, though they have fewer Erases; also the open one.
func TestPickOfFreeOnesAlone(t *testing.T) {
	others := []api.Block{
		{Pages: pages(2), Bad: true, Erases: -9}, {Pages: pages(2, 0), Next: 1, Erases: -9}, {Pages: pages(2, 1), Erases: -9},
		{Pages: pages(2), Next: 1, Erases: math.MinInt}, {Pages: pages(2), Next: -1, Erases: -9}, {Pages: pages(2, 0, 1), Next: 2},
	}
	for n := range len(others) + 1 {
		free := api.Block{Pages: pages(2), Erases: 3}
		checkPick(t, chip(append(slices.Clone(others[:n]), free)...), -1, n)
		checkPick(t, chip(append([]api.Block{free}, others[:n]...)...), -1, 0)
		checkPick(t, chip(append(slices.Clone(others[:n]), free, free)...), n, n+1)
	}
	checkPick(t, chip(worn(1, 2, 3)...), 0, 1)
	checkPick(t, chip(worn(9, 2, 3)...), 1, 2)
	checkPick(t, chip(worn(9, 2, 3)...), 2, 1)
	// Without room it is not Open: with no pages it is Free.
	checkPick(t, chip(api.Block{Erases: 1}, api.Block{Pages: pages(1), Erases: 2}), 0, 0)
}

// K3: a block behind the length is none that is picked.
func TestPickBehindTheLength(t *testing.T) {
	checkPick(t, roomy(), -1, 0)
	checkPick(t, roomy(), 0, -1)
	checkPick(t, api.Chip{Blocks: worn(5, 1)[:1]}, -1, 0)
}

// K3: -1, where no block is Free.
func TestPickOfNone(t *testing.T) {
	for _, open := range around(3) {
		checkPick(t, api.Chip{}, open, -1)
		checkPick(t, api.Chip{Blocks: worn(5, 1)[:0]}, open, -1)
		checkPick(t, chip(api.Block{Bad: true}, api.Block{Pages: pages(1), Bad: true}), open, -1)
		checkPick(t, chip(api.Block{Pages: pages(1, 0)}, api.Block{Next: 1}, api.Block{Next: -1}), open, -1)
	}
	checkPick(t, chip(worn(4)...), 0, -1)
	checkPick(t, chip(api.Block{Pages: pages(2), Bad: true}, api.Block{Pages: pages(2)}), 1, -1)
}

// K3: of all chips, no Free block has fewer Erases than the one that is picked, and none ahead of it has as few.
func TestPickAgainstWords(t *testing.T) {
	for _, c := range someChips() {
		for _, open := range around(min(len(c.Blocks), 60)) {
			want := -1
			for b := range c.Blocks {
				best := stateByWords(c, open, b) == isFree
				for other := range c.Blocks {
					if best && stateByWords(c, open, other) == isFree {
						less := c.Blocks[other].Erases < c.Blocks[b].Erases
						best = !less && (other >= b || c.Blocks[other].Erases != c.Blocks[b].Erases)
					}
				}
				if best {
					want = b
				}
			}
			checkPick(t, c, open, want)
		}
	}
}

// K4: the fewest and the most, in whatever order; of one block, of the same Erases, below 0 and at the ends of int.
func TestWear(t *testing.T) {
	for _, x := range []struct {
		least, most int
		erases      []int
	}{
		{0, 0, []int{0}}, {7, 7, []int{7}}, {-7, -7, []int{-7}}, {1, 3, []int{1, 2, 3}}, {1, 3, []int{3, 2, 1}}, {1, 3, []int{2, 1, 3}}, {1, 3, []int{2, 3, 1}},
		{4, 4, []int{4, 4, 4}}, {0, 4, []int{4, 0}}, {-3, -1, []int{-2, -1, -3}}, {-3, 5, []int{0, 5, -3}}, {-3, 0, []int{-3, 0}},
		{math.MinInt, math.MaxInt, []int{math.MaxInt, 0, math.MinInt}}, {math.MinInt, math.MinInt, []int{math.MinInt}}, {math.MaxInt, math.MaxInt, []int{math.MaxInt}},
		{math.MaxInt - 1, math.MaxInt, []int{math.MaxInt, math.MaxInt - 1}}, {math.MinInt, math.MinInt + 1, []int{math.MinInt, math.MinInt + 1}}, {1 << 32, 1 << 40, []int{1 << 40, 1 << 32}},
	} {
		checkWear(t, chip(worn(x.erases...)...), x.least, x.most)
	}
}

// K4: Bad blocks do not count, whatever their Erases, and wherever they stand; blocks of all other states do.
func TestWearPassesOverBadBlocks(t *testing.T) {
	for _, n := range []int{math.MinInt, -5, 0, 3, 99, math.MaxInt} {
		bad := api.Block{Pages: pages(2), Bad: true, Erases: n}
		checkWear(t, chip(append([]api.Block{bad}, worn(4, 9)...)...), 4, 9)
		checkWear(t, chip(append(worn(9, 4), bad)...), 4, 9)
		checkWear(t, chip(worn(9)[0], bad, worn(4)[0], bad), 4, 9)
		checkWear(t, chip(bad, worn(6)[0], bad), 6, 6)
		checkWear(t, chip(bad, worn(-6)[0]), -6, -6)
		checkWear(t, chip(bad), 0, 0)
		checkWear(t, chip(bad, bad, bad), 0, 0)
	}
	checkWear(t, chip(
		api.Block{Pages: pages(2, 0), Next: 1, Erases: 2}, api.Block{Erases: 5}, api.Block{Pages: pages(2, 0, 1), Next: 2, Erases: 8},
		api.Block{Pages: pages(2), Next: -1, Erases: 1}, api.Block{Next: math.MaxInt, Erases: 11},
	), 1, 11)
}

// K4: 0 and 0 of no blocks; what stands behind the length is none.
func TestWearOfNoBlocks(t *testing.T) {
	checkWear(t, api.Chip{}, 0, 0)
	checkWear(t, chip(), 0, 0)
	checkWear(t, api.Chip{Blocks: worn(5, 1)[:0]}, 0, 0)
	checkWear(t, roomy(), 1, 6)
}

// K4: of all chips, some block that is not Bad has the fewest Erases, some has the most, and none has fewer or more.
func TestWearAgainstWords(t *testing.T) {
	for _, c := range someChips() {
		var erases []int
		for _, block := range c.Blocks {
			if !block.Bad {
				erases = append(erases, block.Erases)
			}
		}
		slices.Sort(erases)
		if len(erases) == 0 {
			checkWear(t, c, 0, 0)
		} else {
			checkWear(t, c, erases[0], erases[len(erases)-1])
		}
	}
}

// step is a program or an erase of a chip that layer 5 made.
type step struct {
	erase bool
	b     int
	fate  api.Fate
}

// someSteps are all programs of the Next pages, and all erases, of so many blocks of two pages, by all fates.
func someSteps(blocks int) []step {
	var out []step
	for b := range blocks {
		for kind := range 3 {
			out = append(out, step{b: b, fate: api.Fate{Kind: kind, Data: "dust", Tag: "soot"}}, step{erase: true, b: b, fate: api.Fate{Kind: kind}})
		}
		out = append(out, step{erase: true, b: b, fate: api.Fate{Kind: api.Cut, N: 1}}, step{erase: true, b: b, fate: api.Fate{Kind: api.Cut, N: 2}})
	}
	return out
}

// past is what a test knows of a block by what was done to it: whether it is Bad, and how many of its pages may be programmed.
type past struct {
	bad  bool
	room int
}

// state is what a block of two pages with that past is, where it is the open one or not.
func (p past) state(open bool) int {
	switch {
	case p.bad:
		return isRetired
	case open && p.room > 0:
		return isOpen
	case p.room < 2:
		return isClosed
	}
	return isFree
}

// done is the past of a block behind a step.
func (p past) done(s step) past {
	if p.bad || !s.erase && p.room == 0 {
		return p
	}
	switch {
	case s.erase && s.fate.Kind == api.Good:
		p.room = 2
	case s.erase && s.fate.Kind == api.Cut:
		p.room = 0
	case !s.erase:
		p.room--
	}
	p.bad = s.fate.Kind == api.Fail
	return p
}

// do does a step, where the power is on.
func do(c api.Chip, s step) (api.Chip, api.Errno) {
	if s.erase {
		return nand.Erase(c, s.b, s.fate)
	}
	return nand.Program(c, s.b, c.Blocks[s.b].Next, api.Page{Data: "d", Tag: "t"}, s.fate)
}

// checkStates wants that each block of c is in the one state that its past asks for.
func checkStates(t *testing.T, c api.Chip, pasts []past) {
	t.Helper()
	for open := -1; open <= len(pasts); open++ {
		counts := [4]int{}
		for b, p := range pasts {
			checkState(t, c, open, b, p.state(b == open))
			counts[p.state(b == open)]++
		}
		checkMany(t, c, open, counts)
	}
}

// checkErased wants that an erase that was done has made a Closed block Free; the open one has room again.
func checkErased(t *testing.T, before, after api.Chip, b int) {
	t.Helper()
	for open := -1; open <= len(before.Blocks); open++ {
		want := isFree
		if open == b {
			want = isOpen
		}
		if was := State(before, open, b); was == isClosed {
			checkState(t, after, open, b, want)
		}
	}
	checkState(t, after, -1, b, isFree)
}

// checkPickedAgain wants that who picks, programs the first page of that block, by any fate, and picks again, picks another one, or none.
func checkPickedAgain(t *testing.T, c api.Chip) {
	t.Helper()
	for open := -1; open <= len(c.Blocks); open++ {
		picked := Pick(c, open)
		if picked < 0 {
			continue
		}
		for kind := range 3 {
			after, errno := nand.Program(c, picked, 0, api.Page{Data: "d", Tag: "t"}, api.Fate{Kind: kind})
			if errno == api.ErrArg {
				t.Errorf("of %+v, open %d, block %d is picked, whose first page can't be programmed", c, open, picked)
			}
			for _, next := range []int{open, picked, -1} {
				if Pick(after, next) == picked {
					t.Errorf("of %+v, open %d, block %d is picked, and then, open %d, again", c, open, picked, next)
				}
			}
		}
	}
}

// walk does all steps, one behind the other, as deep as depth; the power comes back ahead of each.
func walk(t *testing.T, c api.Chip, pasts []past, steps []step, depth int) {
	checkStates(t, c, pasts)
	c = nand.On(c)
	checkStates(t, c, pasts)
	checkPickedAgain(t, c)
	if depth == 0 || t.Failed() {
		return
	}
	for _, s := range steps {
		after, errno := do(c, s)
		if s.erase && errno == api.OK {
			checkErased(t, c, after, s.b)
		}
		now := slices.Clone(pasts)
		now[s.b] = now[s.b].done(s)
		walk(t, after, now, steps, depth-1)
	}
}

// K5: all ways of three programs and erases behind one another, of two blocks of two pages, and of three of which one is Bad.
func TestAllWaysOfAFewSteps(t *testing.T) {
	two, _ := nand.New(2, 2, nil)
	walk(t, two, []past{{room: 2}, {room: 2}}, someSteps(2), 3)
	three, _ := nand.New(3, 2, []int{1})
	walk(t, three, []past{{room: 2}, {room: 2, bad: true}, {room: 2}}, someSteps(3), 2)
}

// K5: over long runs of programs and erases of many blocks, most of them Good.
func TestLongRuns(t *testing.T) {
	steps := someSteps(9)
	for seed := range uint32(6) {
		c, _ := nand.New(9, 2, []int{4})
		pasts := slices.Repeat([]past{{room: 2}}, 9)
		pasts[4].bad = true
		for range 150 {
			seed = seed*1664525 + 1013904223
			s := steps[int(seed>>8)%len(steps)]
			// Nearly no block is left, if one step of three makes one Bad.
			if s.fate.Kind == api.Fail && seed>>28 > 0 {
				s.fate = api.Fate{}
			}
			after, errno := do(nand.On(c), s)
			if s.erase && errno == api.OK {
				checkErased(t, c, after, s.b)
			}
			c, pasts[s.b] = after, pasts[s.b].done(s)
			checkStates(t, c, pasts)
			checkPickedAgain(t, nand.On(c))
		}
	}
}

// K5: who picks and programs on and on picks each Free block once, those with fewer Erases first; erased, all are picked again.
func TestPickedOneByOne(t *testing.T) {
	for _, n := range []int{1, 2, 16} {
		c, _ := nand.New(8, n, []int{2, 7})
		for _, b := range []int{0, 3, 0, 5, 1} {
			c, _ = nand.Erase(c, b, api.Fate{})
		}
		for range 2 {
			open := -1
			for i, b := range []int{4, 6, 1, 3, 5, 0} {
				checkMany(t, c, -1, [4]int{6 - i, 0, i, 2})
				checkPick(t, c, open, b)
				c, _ = nand.Program(c, b, 0, api.Page{Data: "d", Tag: "t"}, api.Fate{})
				open = b
			}
			checkPick(t, c, open, -1)
			for b := range 8 {
				if b != 2 && b != 7 {
					c, _ = nand.Erase(c, b, api.Fate{})
				}
			}
			checkMany(t, c, -1, [4]int{6, 0, 0, 2})
		}
		checkWear(t, c, 2, 4)
		if c.Broken {
			t.Errorf("the chip is broken: %+v", c)
		}
	}
}

// askAll calls all of the package, of a chip, with open blocks, blocks and states around its own.
func askAll(c api.Chip) []int {
	var out []int
	for _, open := range []int{math.MinInt, -1, 0, 1, len(c.Blocks) - 1, len(c.Blocks), math.MaxInt} {
		for _, b := range around(min(len(c.Blocks), 20)) {
			out = append(out, State(c, open, b))
		}
		for _, state := range around(4) {
			out = append(out, Many(c, open, state))
		}
		out = append(out, Pick(c, open))
	}
	least, most := Wear(c)
	return append(out, least, most)
}

// R3: no chip that is handed in has changed behind any call, nor what stands behind the lengths of its lists.
func TestChipsAreLeft(t *testing.T) {
	for _, c := range someChips() {
		before := whole(c)
		askAll(c)
		if !sameChip(whole(c), before) {
			t.Errorf("the chip has become %+v, was %+v", whole(c), before)
		}
	}
}

// R4: the same arguments have the same answer, whatever was called between.
func TestNoCallLeavesATrace(t *testing.T) {
	var first [][]int
	for _, c := range someChips() {
		first = append(first, askAll(c))
	}
	for i, c := range someChips() {
		if second := askAll(c); !slices.Equal(first[i], second) {
			t.Errorf("of %+v: %v, and then %v", c, first[i], second)
		}
	}
}
