package nand

import (
	"math"
	"slices"
	"testing"

	"clinker/api"
)

// sameBlock tells whether two blocks have the same fields; an empty list is as good as none.
func sameBlock(a, b api.Block) bool {
	return slices.Equal(a.Pages, b.Pages) && a.Next == b.Next && a.Erases == b.Erases && a.Bad == b.Bad
}

// same tells whether two chips have the same fields.
func same(a, b api.Chip) bool {
	return slices.EqualFunc(a.Blocks, b.Blocks, sameBlock) && a.Broken == b.Broken && a.Off == b.Off && a.Ops == b.Ops
}

// copied is a chip that shares nothing with c.
func copied(c api.Chip) api.Chip {
	c.Blocks = slices.Clone(c.Blocks)
	for b := range c.Blocks {
		c.Blocks[b].Pages = slices.Clone(c.Blocks[b].Pages)
	}
	return c
}

// whole is c with what stands behind the lengths of its lists, too, up to their capacities.
func whole(c api.Chip) api.Chip {
	c.Blocks = slices.Clone(c.Blocks[:cap(c.Blocks)])
	for b, block := range c.Blocks {
		c.Blocks[b].Pages = slices.Clone(block.Pages[:cap(block.Pages)])
	}
	return c
}

// fresh is what New answers; the test ends, if it is an error.
func fresh(t *testing.T, blocks, pages int, bad ...int) api.Chip {
	t.Helper()
	c, errno := New(blocks, pages, bad)
	if errno != api.OK {
		t.Fatalf("New(%d, %d, %v): %d", blocks, pages, bad, errno)
	}
	return c
}

// checkChip holds what a call answered against what is wanted.
func checkChip(t *testing.T, why string, got api.Chip, errno api.Errno, want api.Chip, e api.Errno) {
	t.Helper()
	if !same(got, want) || errno != e {
		t.Errorf("%s: %+v, %d, want %+v, %d", why, got, errno, want, e)
	}
}

// checkNew wants a chip, field by field.
func checkNew(t *testing.T, blocks, pages int, bad []int, isBad ...int) {
	t.Helper()
	c, errno := New(blocks, pages, bad)
	if errno != 0 || len(c.Blocks) != blocks || c.Broken || c.Off || c.Ops != 0 {
		t.Fatalf("New(%d, %d, %v) = %+v, %d", blocks, pages, bad, c, errno)
	}
	for b, block := range c.Blocks {
		want := api.Block{Pages: make([]api.Page, pages), Bad: slices.Contains(isBad, b)}
		if !sameBlock(block, want) {
			t.Errorf("New(%d, %d, %v): block %d is %+v, want %+v", blocks, pages, bad, b, block, want)
		}
	}
}

// checkNoNew wants ErrArg, and nothing.
func checkNoNew(t *testing.T, blocks, pages int, bad []int) {
	t.Helper()
	c, errno := New(blocks, pages, bad)
	checkChip(t, "New of wrong arguments", c, errno, api.Chip{}, 1)
}

// E1: the edges of both counts, alone and together; with no bad blocks, and with some.
func TestNew(t *testing.T) {
	for _, blocks := range []int{1, 2, 31, 32} {
		for _, pages := range []int{1, 2, 15, 16} {
			checkNew(t, blocks, pages, nil)
			checkNew(t, blocks, pages, []int{})
			checkNew(t, blocks, pages, []int{0}, 0)
			checkNew(t, blocks, pages, []int{blocks - 1}, blocks-1)
			checkNew(t, blocks, pages, []int{0, 0, blocks - 1, 0}, 0, blocks-1)
		}
	}
	checkNew(t, 2, 4, []int{1}, 1)
	checkNew(t, 4, 3, []int{3, 1, 3}, 1, 3)
	checkNew(t, 3, 1, []int{2, 1, 0}, 0, 1, 2)
}

// E1: counts and bad blocks beyond the edges.
func TestNewOfWrongArguments(t *testing.T) {
	for _, wrong := range []int{0, -1, -32, math.MinInt, math.MaxInt} {
		for _, right := range []int{1, 16} {
			checkNoNew(t, wrong, right, nil)
			checkNoNew(t, right, wrong, nil)
		}
		checkNoNew(t, wrong, wrong, nil)
		checkNoNew(t, wrong, 4, []int{0})
	}
	checkNoNew(t, 33, 1, nil)
	checkNoNew(t, 33, 16, []int{32})
	checkNoNew(t, 1, 17, nil)
	checkNoNew(t, 32, 17, []int{0})
	for _, blocks := range []int{1, 2, 32} {
		for _, wrong := range []int{-1, blocks, blocks + 1, math.MinInt, math.MaxInt} {
			checkNoNew(t, blocks, 4, []int{wrong})
			checkNoNew(t, blocks, 4, []int{0, wrong})
			checkNoNew(t, blocks, 4, []int{wrong, 0})
			checkNoNew(t, blocks, 4, []int{0, wrong, 0})
		}
	}
}

// E1: no two blocks of a new chip have the same list of pages.
func TestNewBlocksAreApart(t *testing.T) {
	c := fresh(t, 3, 2)
	c.Blocks[1].Pages[1].Data = "x"
	_ = append(c.Blocks[0].Pages, api.Page{Data: "y"})
	for b, block := range c.Blocks {
		for p, page := range block.Pages {
			if (page != api.Page{}) && (b != 1 || p != 1) {
				t.Errorf("block %d page %d is %+v", b, p, page)
			}
		}
	}
}

// written is a page with data and a tag of its own.
func written(text string) api.Page {
	return api.Page{Written: true, Data: text, Tag: "tag of " + text}
}

// unlike is a chip that New does not make: blocks of 0, 1, 3 and 20 pages, their Nexts at all edges and beyond.
func unlike() api.Chip {
	many := make([]api.Page, 20)
	many[16], many[19] = written("sixteen"), api.Page{Data: "left", Tag: "over"}
	return api.Chip{Ops: -5, Blocks: []api.Block{
		{},
		{Pages: []api.Page{written("one")}, Next: 1, Erases: 7},
		{Pages: []api.Page{written("a"), {}, written("c")}, Next: 1},
		{Pages: []api.Page{written("d"), written("e"), {}}, Next: 0, Erases: -3},
		{Pages: many, Next: 17, Erases: math.MaxInt - 1},
		{Pages: make([]api.Page, 2), Next: 0, Bad: true},
		{Pages: make([]api.Page, 2), Next: -1},
		{Pages: make([]api.Page, 2), Next: 3},
		{Pages: make([]api.Page, 2), Next: math.MinInt},
		{Pages: make([]api.Page, 2), Next: math.MaxInt, Bad: true},
		{Next: 0, Erases: 1, Bad: true},
	}}
}

// roomy is a chip with blocks and pages behind the lengths of its lists, and a list of pages that two blocks have.
func roomy() api.Chip {
	pages := []api.Page{written("a"), {}, {}, written("behind"), {Data: "b", Tag: "c"}}
	shared := []api.Page{written("s"), {}, written("t"), written("u")}
	blocks := []api.Block{
		{Pages: pages[:3], Next: 1, Erases: 2},
		{Pages: shared[:2], Next: 1},
		{Pages: shared[:3], Next: 1},
		{Pages: []api.Page{written("no block")}, Next: 1},
		{Next: 9, Bad: true},
	}
	return api.Chip{Blocks: blocks[:3], Ops: 9}
}

// someChips are made ones, ones that are none of New's, and each of them Off, Broken, and both.
func someChips() []api.Chip {
	var out []api.Chip
	for _, maker := range []func() api.Chip{
		func() api.Chip { return api.Chip{} },
		func() api.Chip { c, _ := New(1, 1, nil); return c },
		func() api.Chip { c, _ := New(2, 4, []int{1}); return c },
		func() api.Chip { return api.Chip{Blocks: make([]api.Block, 40), Ops: math.MaxInt - 1} },
		unlike,
		roomy,
	} {
		for _, off := range []bool{false, true} {
			for _, isBroken := range []bool{false, true} {
				c := maker()
				c.Off, c.Broken = off, isBroken
				out = append(out, c)
			}
		}
	}
	return out
}

// around are numbers from -2 to beyond n, and the ends of int.
func around(n int) []int {
	out := []int{math.MinInt, math.MaxInt}
	for i := -2; i <= n+1; i++ {
		out = append(out, i)
	}
	return out
}

// someFates are of all kinds, and of kinds that there are not.
func someFates() []api.Fate {
	var out []api.Fate
	for _, kind := range []int{0, 1, 2, -1, 3, math.MinInt, math.MaxInt} {
		for _, n := range []int{0, -1, 1, 2, 3, 4, math.MinInt, math.MaxInt} {
			out = append(out, api.Fate{Kind: kind, N: n}, api.Fate{Kind: kind, Data: "dust", Tag: "soot", N: n})
		}
	}
	return out
}

// places calls f with all b and p in a chip and around its edges.
func places(c api.Chip, f func(b, p int)) {
	for _, b := range around(len(c.Blocks)) {
		n := 0
		if b >= 0 && b < len(c.Blocks) {
			n = len(c.Blocks[b].Pages)
		}
		for _, p := range around(n) {
			f(b, p)
		}
	}
}

// checkRead holds what Read answers against what is wanted.
func checkRead(t *testing.T, c api.Chip, b, p int, want api.Page, e api.Errno) {
	t.Helper()
	if got, errno := Read(c, b, p); got != want || errno != e {
		t.Errorf("Read(%+v, %d, %d) = %+v, %d, want %+v, %d", c, b, p, got, errno, want, e)
	}
}

// E2: pages that there are, of blocks of unlike counts, Bad ones and Broken chips too; written or not.
func TestReadOfKnownPages(t *testing.T) {
	for _, isBroken := range []bool{false, true} {
		c := unlike()
		c.Broken = isBroken
		checkRead(t, c, 1, 0, written("one"), 0)
		checkRead(t, c, 1, 1, api.Page{}, 1)
		checkRead(t, c, 0, 0, api.Page{}, 1)
		checkRead(t, c, 2, 0, written("a"), 0)
		checkRead(t, c, 2, 1, api.Page{}, 0)
		checkRead(t, c, 2, 2, written("c"), 0)
		checkRead(t, c, 2, 3, api.Page{}, 1)
		checkRead(t, c, 4, 16, written("sixteen"), 0)
		checkRead(t, c, 4, 19, api.Page{Data: "left", Tag: "over"}, 0)
		checkRead(t, c, 4, 20, api.Page{}, 1)
		checkRead(t, c, 5, 1, api.Page{}, 0)
		checkRead(t, c, 5, 2, api.Page{}, 1)
		checkRead(t, c, 10, 0, api.Page{}, 1)
		checkRead(t, c, 11, 0, api.Page{}, 1)
		checkRead(t, c, -1, 0, api.Page{}, 1)
		checkRead(t, c, 2, -1, api.Page{}, 1)
	}
	// What stands behind the lengths is no block and no page.
	checkRead(t, roomy(), 0, 3, api.Page{}, 1)
	checkRead(t, roomy(), 3, 0, api.Page{}, 1)
}

// E2: ErrOff ahead of ErrArg; and ErrArg of all that there is not.
func TestRead(t *testing.T) {
	for _, c := range someChips() {
		places(c, func(b, p int) {
			switch {
			case c.Off:
				checkRead(t, c, b, p, api.Page{}, 52)
			case b < 0 || b >= len(c.Blocks) || p < 0 || p >= len(c.Blocks[b].Pages):
				checkRead(t, c, b, p, api.Page{}, 1)
			default:
				checkRead(t, c, b, p, c.Blocks[b].Pages[p], 0)
			}
		})
	}
}

// E1 and E3: the chapter's example.
func TestProgramOfABadBlock(t *testing.T) {
	c := fresh(t, 2, 4, 1)
	want := copied(c)
	want.Broken = true
	for _, kind := range []int{api.Good, api.Fail, api.Cut} {
		got, errno := Program(c, 1, 0, written("a"), api.Fate{Kind: kind})
		checkChip(t, "a program of a Bad block", got, errno, want, 1)
	}
}

// E3: what a page has, Next, Ops, Bad, Off and the error, by the three fates; whether the page that is given is Written makes no difference.
func TestProgramByFates(t *testing.T) {
	for _, isWritten := range []bool{false, true} {
		c := fresh(t, 2, 3)
		c, errno := Program(c, 1, 0, api.Page{Written: isWritten, Data: "abc", Tag: "def"}, api.Fate{Data: "dust", Tag: "soot", N: 2})
		want := api.Chip{Ops: 1, Blocks: []api.Block{
			{Pages: make([]api.Page, 3)},
			{Pages: []api.Page{{Written: true, Data: "abc", Tag: "def"}, {}, {}}, Next: 1},
		}}
		checkChip(t, "Good", c, errno, want, 0)

		failed, errno := Program(c, 1, 1, api.Page{Written: isWritten, Data: "abc", Tag: "def"}, api.Fate{Kind: api.Fail, Data: "dust", Tag: "soot", N: 2})
		want.Ops = 2
		want.Blocks[1] = api.Block{Pages: []api.Page{{Written: true, Data: "abc", Tag: "def"}, {Written: true, Data: "dust", Tag: "soot"}, {}}, Next: 2, Bad: true}
		checkChip(t, "Fail", failed, errno, want, 53)

		cut, errno := Program(c, 1, 1, api.Page{Written: isWritten, Data: "abc", Tag: "def"}, api.Fate{Kind: api.Cut})
		want.Off = true
		want.Blocks[1] = api.Block{Pages: []api.Page{{Written: true, Data: "abc", Tag: "def"}, {Written: true}, {}}, Next: 2}
		checkChip(t, "Cut", cut, errno, want, 52)
	}
}

// E3: pages that are not Next, kinds that there are not, and no such page: Broken, and nothing else; once Broken it goes on.
func TestProgramThatBreaks(t *testing.T) {
	c := fresh(t, 2, 3)
	c, _ = Program(c, 0, 0, written("a"), api.Fate{})
	c.Blocks[1].Erases = 4
	want := copied(c)
	want.Broken = true
	for _, at := range [][2]int{{0, 0}, {0, 2}, {1, 1}, {0, 3}, {0, -1}, {2, 0}, {-1, 0}, {-1, -1}, {math.MinInt, 0}, {math.MaxInt, 0}, {0, math.MinInt}, {0, math.MaxInt}} {
		for _, f := range someFates() {
			got, errno := Program(c, at[0], at[1], written("b"), f)
			checkChip(t, "no such page, or not Next", got, errno, want, 1)
		}
	}
	for _, kind := range []int{-1, 3, math.MinInt, math.MaxInt} {
		got, errno := Program(c, 0, 1, written("b"), api.Fate{Kind: kind, Data: "dust", Tag: "soot"})
		checkChip(t, "no such kind", got, errno, want, 1)
	}
	got, errno := Program(want, 0, 1, written("b"), api.Fate{})
	want = copied(want)
	want.Ops = 2
	want.Blocks[0].Next, want.Blocks[0].Pages[1] = 2, written("b")
	checkChip(t, "a chip that was Broken", got, errno, want, 0)
}

// programmed is what E3 wants of a chip; it is asked in the chapter's order.
func programmed(c api.Chip, b, p int, page api.Page, f api.Fate) (api.Chip, api.Errno) {
	c = copied(c)
	if c.Off {
		return c, 52
	}
	if b < 0 || p < 0 || b >= len(c.Blocks) || p >= len(c.Blocks[b].Pages) || c.Blocks[b].Bad || c.Blocks[b].Next != p || f.Kind < 0 || f.Kind > 2 {
		c.Broken = true
		return c, 1
	}
	c.Ops++
	c.Blocks[b].Next++
	c.Blocks[b].Pages[p] = [...]api.Page{{Written: true, Data: page.Data, Tag: page.Tag}, {Written: true, Data: f.Data, Tag: f.Tag}, {Written: true, Data: f.Data, Tag: f.Tag}}[f.Kind]
	c.Blocks[b].Bad = f.Kind == 1
	c.Off = f.Kind == 2
	return c, [...]api.Errno{0, 53, 52}[f.Kind]
}

// E3 and R3: all chips, places and fates; what is handed in stays as it is.
func TestProgram(t *testing.T) {
	for _, c := range someChips() {
		before := whole(c)
		places(c, func(b, p int) {
			for _, f := range someFates() {
				for _, page := range []api.Page{{}, written("new"), {Data: "d"}, {Tag: "t"}} {
					want, e := programmed(c, b, p, page, f)
					got, errno := Program(c, b, p, page, f)
					checkChip(t, "Program", got, errno, want, e)
				}
			}
		})
		if !same(whole(c), before) {
			t.Errorf("Program has written into %+v: %+v", before, whole(c))
		}
	}
}

// half is a chip of two blocks, of which the second has been erased once and has three of its four pages.
func half() api.Chip {
	return api.Chip{Ops: 5, Blocks: []api.Block{
		{Pages: []api.Page{written("x"), {}, {}, {}}, Next: 1},
		{Pages: []api.Page{written("a"), written("b"), written("c"), {}}, Next: 3, Erases: 1},
	}}
}

// erasedHalf is half with the second block erased as far as n, and these fields.
func erasedHalf(n, next, erases int) api.Chip {
	c := half()
	for p := range n {
		c.Blocks[1].Pages[p] = api.Page{}
	}
	c.Blocks[1].Next, c.Blocks[1].Erases, c.Ops = next, erases, 6
	return c
}

// E4: pages, Next, Erases, Ops, Bad, Off and the error, by the three fates; cut below 0, at 0, amid the pages and beyond them.
func TestEraseByFates(t *testing.T) {
	for _, n := range []int{0, 2, -1, 9} {
		got, errno := Erase(half(), 1, api.Fate{N: n, Data: "dust", Tag: "soot"})
		checkChip(t, "Good", got, errno, erasedHalf(4, 0, 2), 0)

		want := erasedHalf(0, 3, 1)
		want.Blocks[1].Bad = true
		got, errno = Erase(half(), 1, api.Fate{Kind: api.Fail, N: n, Data: "dust", Tag: "soot"})
		checkChip(t, "Fail", got, errno, want, 53)
	}
	for _, cut := range [][2]int{{-1, 0}, {math.MinInt, 0}, {0, 0}, {1, 1}, {2, 2}, {3, 3}, {4, 4}, {5, 4}, {math.MaxInt, 4}} {
		want := erasedHalf(cut[1], 4, 2)
		want.Off = true
		got, errno := Erase(half(), 1, api.Fate{Kind: api.Cut, N: cut[0], Data: "dust", Tag: "soot"})
		checkChip(t, "Cut", got, errno, want, 52)
	}
}

// E4: an erased page is zero, whatever a page that was not Written had.
func TestEraseLeavesZeroPages(t *testing.T) {
	c := api.Chip{Blocks: []api.Block{{Pages: []api.Page{{Data: "left"}, {Tag: "over"}, written("a")}}}}
	got, errno := Erase(c, 0, api.Fate{})
	checkChip(t, "Good", got, errno, api.Chip{Ops: 1, Blocks: []api.Block{{Pages: make([]api.Page, 3), Erases: 1}}}, 0)
	got, errno = Erase(c, 0, api.Fate{Kind: api.Cut, N: 1})
	want := api.Chip{Ops: 1, Off: true, Blocks: []api.Block{{Pages: []api.Page{{}, {Tag: "over"}, written("a")}, Next: 3, Erases: 1}}}
	checkChip(t, "Cut", got, errno, want, 52)
}

// E4: Broken, and nothing else, of no block, a Bad one, and kinds that there are not.
func TestEraseThatBreaks(t *testing.T) {
	c := half()
	c.Blocks[0].Bad = true
	want := copied(c)
	want.Broken = true
	for _, b := range []int{0, 2, 3, -1, math.MinInt, math.MaxInt} {
		for _, f := range someFates() {
			got, errno := Erase(c, b, f)
			checkChip(t, "no block, or a Bad one", got, errno, want, 1)
		}
	}
	for _, kind := range []int{-1, 3, math.MinInt, math.MaxInt} {
		got, errno := Erase(c, 1, api.Fate{Kind: kind, N: 2})
		checkChip(t, "no such kind", got, errno, want, 1)
	}
}

// wiped is what E4 wants of a chip.
func wiped(c api.Chip, b int, f api.Fate) (api.Chip, api.Errno) {
	c = copied(c)
	if c.Off {
		return c, 52
	}
	if b < 0 || b >= len(c.Blocks) || c.Blocks[b].Bad || f.Kind < 0 || f.Kind > 2 {
		c.Broken = true
		return c, 1
	}
	c.Ops++
	was := c.Blocks[b]
	count := len(was.Pages)
	switch f.Kind {
	case 0:
		c.Blocks[b] = api.Block{Pages: make([]api.Page, count), Erases: was.Erases + 1}
		return c, 0
	case 1:
		c.Blocks[b].Bad = true
		return c, 53
	}
	c.Off = true
	c.Blocks[b].Next, c.Blocks[b].Erases = count, was.Erases+1
	for p := range was.Pages {
		if p < f.N {
			c.Blocks[b].Pages[p] = api.Page{}
		}
	}
	return c, 52
}

// E4 and R3: all chips, blocks and fates; what is handed in stays as it is.
func TestErase(t *testing.T) {
	for _, c := range someChips() {
		before := whole(c)
		for _, b := range around(len(c.Blocks)) {
			for _, f := range someFates() {
				want, e := wiped(c, b, f)
				got, errno := Erase(c, b, f)
				checkChip(t, "Erase", got, errno, want, e)
			}
		}
		if !same(whole(c), before) {
			t.Errorf("Erase has written into %+v: %+v", before, whole(c))
		}
	}
}

// E3 and E4: an Off chip stays as it is, and is not Broken, whatever it is asked.
func TestOffChipIsLeft(t *testing.T) {
	c := half()
	c.Off = true
	for _, f := range someFates() {
		for _, at := range [][2]int{{1, 3}, {1, 2}, {0, 1}, {7, 0}, {-1, -1}} {
			got, errno := Program(c, at[0], at[1], written("z"), f)
			checkChip(t, "Program of an Off chip", got, errno, c, 52)
			got, errno = Erase(c, at[0], f)
			checkChip(t, "Erase of an Off chip", got, errno, c, 52)
		}
	}
}

// E5: Off or not, and nothing else changes; what is handed in stays Off.
func TestOn(t *testing.T) {
	for _, c := range someChips() {
		before := whole(c)
		want := copied(c)
		want.Off = false
		checkChip(t, "On", On(c), 0, want, 0)
		if !same(whole(c), before) {
			t.Errorf("On has written into %+v: %+v", before, whole(c))
		}
	}
	cut, _ := Program(half(), 1, 3, written("d"), api.Fate{Kind: api.Cut, Data: "dust"})
	checkRead(t, cut, 1, 0, api.Page{}, 52)
	checkRead(t, On(cut), 1, 0, written("a"), 0)
	checkRead(t, On(cut), 1, 3, api.Page{Written: true, Data: "dust"}, 0)
}

// step is a call of a chip that New made.
type step struct {
	erase bool
	b, p  int
	fate  api.Fate
}

// someSteps are all programs and erases of two blocks of two pages, right and wrong ones, by all fates.
func someSteps() []step {
	var out []step
	for b := range 2 {
		for kind := range 3 {
			for p := range 2 {
				out = append(out, step{b: b, p: p, fate: api.Fate{Kind: kind, Data: "dust", Tag: "soot"}})
			}
			for n := range 3 {
				if kind == api.Cut || n == 0 {
					out = append(out, step{erase: true, b: b, fate: api.Fate{Kind: kind, N: n}})
				}
			}
		}
	}
	return out
}

// checkOthers wants that two chips are the same but for block b, and, if p is not below 0, that of this one only page p, Next and Bad are others.
func checkOthers(t *testing.T, before, after api.Chip, b, p int) {
	t.Helper()
	before, after = copied(before), copied(after)
	if p < 0 {
		before.Blocks[b], after.Blocks[b] = api.Block{}, api.Block{}
	} else {
		for _, block := range []*api.Block{&before.Blocks[b], &after.Blocks[b]} {
			block.Pages[p], block.Next, block.Bad = api.Page{}, 0, false
		}
	}
	if !slices.EqualFunc(before.Blocks, after.Blocks, sameBlock) {
		t.Errorf("block %d, page %d: others are %+v, and were %+v", b, p, after.Blocks, before.Blocks)
	}
}

// walk does all steps, one behind the other, as deep as depth; the power comes back ahead of each. since has, of each page, whether it was programmed since it was erased.
func walk(t *testing.T, c api.Chip, since [2][2]bool, steps []step, depth int) {
	if depth == 0 || t.Failed() {
		return
	}
	c = On(c)
	before := whole(c)
	for _, s := range steps {
		now := since
		var got api.Chip
		if s.erase {
			got = walkErase(t, c, s, &now)
		} else {
			got = walkProgram(t, c, s, &now)
		}
		walk(t, got, now, steps, depth-1)
	}
	if !same(whole(c), before) {
		t.Errorf("a call has written into %+v: %+v", before, whole(c))
	}
}

// walkErase does an erase, and checks what it leaves.
func walkErase(t *testing.T, c api.Chip, s step, since *[2][2]bool) api.Chip {
	t.Helper()
	got, errno := Erase(c, s.b, s.fate)
	checkOthers(t, c, got, s.b, -1)
	if errno == api.OK {
		since[s.b] = [2]bool{}
		for p, page := range got.Blocks[s.b].Pages {
			checkRead(t, got, s.b, p, api.Page{}, api.OK)
			if page.Written {
				t.Errorf("erased, page %d is %+v", p, page)
			}
		}
	}
	return got
}

// walkProgram does a program, and checks what it leaves.
func walkProgram(t *testing.T, c api.Chip, s step, since *[2][2]bool) api.Chip {
	t.Helper()
	page := api.Page{Data: string(rune('a' + c.Ops)), Tag: "t"}
	got, errno := Program(c, s.b, s.p, page, s.fate)
	checkOthers(t, c, got, s.b, s.p)
	was, is := c.Blocks[s.b].Pages[s.p], got.Blocks[s.b].Pages[s.p]
	if (since[s.b][s.p] || was.Written) && (is != was || !got.Broken || errno != api.ErrArg) {
		t.Errorf("page %d of block %d is written again: %+v, and was %+v; the chip is %+v", s.p, s.b, is, was, got)
	}
	if errno == api.OK {
		checkRead(t, got, s.b, s.p, api.Page{Written: true, Data: page.Data, Tag: page.Tag}, api.OK)
	}
	if errno != api.ErrArg {
		since[s.b][s.p] = true
	}
	return got
}

// E6: all ways of four calls behind one another, of a new chip of two blocks of two pages.
func TestAllWaysOfAFewCalls(t *testing.T) {
	walk(t, fresh(t, 2, 2), [2][2]bool{}, someSteps(), 4)
}

// E6: a whole chip is programmed, read, and erased block by block; all that is not erased is still read.
func TestProgrammedIsRead(t *testing.T) {
	c := fresh(t, 32, 16, 3, 31)
	name := func(b, p int) string { return string(rune('A'+b)) + string(rune('a'+p)) }
	ops := 0
	for b := range 32 {
		for p := range 16 {
			if b == 3 || b == 31 {
				continue
			}
			var errno api.Errno
			c, errno = Program(c, b, p, written(name(b, p)), api.Fate{})
			ops++
			if errno != api.OK || c.Ops != ops || c.Blocks[b].Next != p+1 {
				t.Fatalf("block %d page %d: %d, Ops %d, Next %d", b, p, errno, c.Ops, c.Blocks[b].Next)
			}
		}
	}
	for gone := range 3 {
		var errno api.Errno
		if c, errno = Erase(c, gone, api.Fate{}); errno != api.OK {
			t.Fatalf("Erase of block %d: %d", gone, errno)
		}
		for b := range 32 {
			for p := range 16 {
				want := written(name(b, p))
				if b <= gone || b == 3 || b == 31 {
					want = api.Page{}
				}
				checkRead(t, c, b, p, want, api.OK)
			}
		}
	}
	if c.Broken || c.Off || c.Ops != ops+3 {
		t.Errorf("Broken %v, Off %v, Ops %d", c.Broken, c.Off, c.Ops)
	}
}

// E4 and E6: behind an erase that was cut no page is programmed ahead of an erase that ends.
func TestCutEraseNeedsAnother(t *testing.T) {
	for n := -1; n <= 5; n++ {
		cut, _ := Erase(half(), 1, api.Fate{Kind: api.Cut, N: n})
		c := On(cut)
		for p := range 4 {
			if got, errno := Program(c, 1, p, written("z"), api.Fate{}); errno != api.ErrArg || !got.Broken {
				t.Errorf("cut at %d: page %d: %d", n, p, errno)
			}
		}
		again, errno := Erase(c, 1, api.Fate{})
		want := erasedHalf(4, 0, 3)
		want.Ops = 7
		checkChip(t, "erased again", again, errno, want, 0)
		if _, errno := Program(again, 1, 0, written("z"), api.Fate{}); errno != api.OK {
			t.Errorf("cut at %d, erased again: %d", n, errno)
		}
	}
}

// R3: the list of bad blocks, and what stands behind its length, is not written into.
func TestListOfBadBlocksIsLeft(t *testing.T) {
	bad := []int{1, 0, 1, -7, 99}
	checkNew(t, 2, 2, bad[:3], 0, 1)
	checkNoNew(t, 2, 2, bad)
	if !slices.Equal(bad, []int{1, 0, 1, -7, 99}) {
		t.Errorf("the list is %v behind the calls", bad)
	}
}

// R3: a chip that others were made from stays as it is, and so does each of these behind the next.
func TestEarlierChipsAreLeft(t *testing.T) {
	all := []api.Chip{fresh(t, 2, 3)}
	was := []api.Chip{copied(all[0])}
	keep := func(c api.Chip, _ api.Errno) {
		all, was = append(all, c), append(was, copied(c))
	}
	last := func() api.Chip { return all[len(all)-1] }
	keep(Program(last(), 0, 0, written("a"), api.Fate{}))
	keep(Program(last(), 0, 1, written("b"), api.Fate{}))
	keep(Program(last(), 1, 0, written("c"), api.Fate{Kind: api.Cut}))
	keep(On(last()), 0)
	keep(Erase(last(), 0, api.Fate{Kind: api.Cut, N: 1}))
	keep(On(last()), 0)
	keep(Erase(last(), 0, api.Fate{}))
	keep(Program(last(), 0, 0, written("d"), api.Fate{Kind: api.Fail}))
	keep(Erase(last(), 1, api.Fate{Kind: api.Fail}))
	keep(Erase(last(), 1, api.Fate{}))
	for i := range all {
		if !same(all[i], was[i]) {
			t.Errorf("chip %d is %+v, and was %+v", i, all[i], was[i])
		}
	}
	if !last().Broken || last().Ops != 7 {
		t.Errorf("the last chip is %+v", last())
	}
}

// R4: the same arguments have the same answer, whatever was called between.
func TestNoCallLeavesATrace(t *testing.T) {
	ask := func() []api.Chip {
		a := fresh(t, 2, 4, 1)
		b, _ := Program(a, 0, 0, written("a"), api.Fate{})
		c, _ := Erase(b, 0, api.Fate{Kind: api.Cut, N: 1})
		return []api.Chip{a, b, c, On(c)}
	}
	first := ask()
	New(0, 0, nil)
	Program(first[1], 9, 9, api.Page{}, api.Fate{Kind: 9})
	Erase(first[1], 0, api.Fate{Kind: api.Fail})
	if second := ask(); !slices.EqualFunc(first, second, same) {
		t.Errorf("%+v, and then %+v", first, second)
	}
}
