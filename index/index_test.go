package index

import (
	"iter"
	"math"
	"slices"
	"testing"

	"clinker/api"
)

// u is a slot that is Used, with a fingerprint and a place.
func u(print, place int) api.Slot {
	return api.Slot{State: api.Used, Print: print, Place: place}
}

// gone is a slot that is Gone.
func gone() api.Slot { return api.Slot{State: api.Gone} }

// whole is a copy of l with what stands behind its length, too, up to its capacity.
func whole(l []api.Slot) []api.Slot { return slices.Clone(l[:cap(l)]) }

// full are n slots that are Used, each with the fingerprint that comes to it first.
func full(n int) []api.Slot {
	l := make([]api.Slot, n)
	for i := range l {
		l[i] = u(i, 100+i)
	}
	return l
}

// alike are n slots that are Used with the same fingerprint, and with places of their own.
func alike(n, print int) []api.Slot {
	l := make([]api.Slot, n)
	for i := range l {
		l[i] = u(print, 100+i)
	}
	return l
}

// odd are slots as no Put or Drop makes them: of no known State, in places that no one comes to, and with what is 0 else.
func odd() []api.Slot {
	return []api.Slot{
		{State: 7, Print: 3, Place: 1}, {State: api.Gone, Print: 3, Place: 2}, {State: -1, Print: 3, Place: 3}, u(3, 4),
		{State: math.MinInt, Print: 3, Place: 5}, u(-3, 6), u(math.MaxInt, math.MinInt), {State: math.MaxInt, Print: -1, Place: -1},
		u(math.MinInt, 7), {State: api.Empty, Print: 3, Place: 8}, u(3, 9), u(3, -4), u(-1, 4),
	}
}

// roomy are slots with others behind their length.
func roomy() []api.Slot {
	all := []api.Slot{u(3, 1), {}, gone(), u(3, 2), {}, gone(), u(3, 3)}
	return all[:3]
}

// great are far more slots than there are pages, some of them of each kind.
func great() []api.Slot {
	l := make([]api.Slot, 3000)
	for i := range l {
		switch i * i % 7 {
		case 1, 4:
			l[i] = u(i*13%50+2950*(i%2), i%9)
		case 2:
			l[i] = gone()
		}
	}
	return l
}

// someSlots are slots of all kinds.
func someSlots() [][]api.Slot {
	return [][]api.Slot{
		nil, {}, {{}}, {gone()}, {u(0, 0)}, {u(5, 5)}, make([]api.Slot, 4), make([]api.Slot, 16), full(1), full(4), full(16), alike(5, 3), alike(4, 0),
		odd(), roomy(), roomy()[:0], roomy()[1:2], great(),
		{u(3, 1), gone(), {}, u(3, 2), gone()}, {gone(), gone(), gone()}, {u(1, 4), {}, u(1, 4), u(1, 4)},
	}
}

// somePrints are fingerprints, some of which may not be.
func somePrints() []int {
	return []int{math.MinInt, math.MinInt + 1, -1 << 40, -4, -3, -1, 0, 1, 2, 3, 4, 5, 7, 15, 16, 17, 2953, 1 << 32, 1<<40 + 3, math.MaxInt - 1, math.MaxInt}
}

// somePlaces are places, at the edges of int, too.
func somePlaces() []int {
	return []int{math.MinInt, -4, -1, 0, 1, 2, 4, 5, 9, 101, 511, 1 << 40, math.MaxInt}
}

// small tells each list of up to four slots of few kinds.
func small(tell func([]api.Slot)) {
	kinds := []api.Slot{{}, gone(), u(0, 1), u(1, 1), u(1, 2), u(4, 1)}
	lists := [][]api.Slot{nil}
	for range 5 {
		var longer [][]api.Slot
		for _, l := range lists {
			tell(l)
			for _, kind := range kinds {
				longer = append(longer, append(slices.Clone(l), kind))
			}
		}
		lists = longer
	}
}

// order is, by the words, the numbers of n slots as one comes to them.
func order(n, print int) []int {
	var out []int
	for i := range n {
		if i >= print%n {
			out = append(out, i)
		}
	}
	for i := range n {
		if i < print%n {
			out = append(out, i)
		}
	}
	return out
}

// told are, by the words of J2, the numbers of the slots of which Find tells.
func told(l []api.Slot, print int) []int {
	var out []int
	if print < 0 {
		return out
	}
	for _, i := range order(len(l), print) {
		if l[i].State == api.Empty {
			break
		}
		if l[i].State == api.Used && l[i].Print == print {
			out = append(out, i)
		}
	}
	return out
}

// checkPut holds what Put answers against the slots that are wanted.
func checkPut(t *testing.T, l []api.Slot, print, place int, want ...api.Slot) {
	t.Helper()
	if got, errno := Put(l, print, place); !slices.Equal(got, want) || errno != api.OK {
		t.Errorf("Put(%v, %d, %d) = %v, %d, want %v", l, print, place, got, errno, want)
	}
}

// checkNoPut wants that Put tells an error, by its number in the chapter, and nothing beside it.
func checkNoPut(t *testing.T, l []api.Slot, print, place int, want api.Errno) {
	t.Helper()
	if got, errno := Put(l, print, place); len(got) != 0 || errno != want {
		t.Errorf("Put(%v, %d, %d) = %v, %d, want %d", l, print, place, got, errno, want)
	}
}

// checkFind holds what Find answers against the places that are wanted.
func checkFind(t *testing.T, l []api.Slot, print int, want ...int) {
	t.Helper()
	if got := Find(l, print); !slices.Equal(got, want) {
		t.Errorf("Find(%v, %d) = %v, want %v", l, print, got, want)
	}
}

// checkDrop holds what Drop answers against the slots that are wanted.
func checkDrop(t *testing.T, l []api.Slot, print, place int, want ...api.Slot) {
	t.Helper()
	if got := Drop(l, print, place); !slices.Equal(got, want) {
		t.Errorf("Drop(%v, %d, %d) = %v, want %v", l, print, place, got, want)
	}
}

// checkNoDrop wants that Drop answers the slots as they were.
func checkNoDrop(t *testing.T, l []api.Slot, print, place int) {
	t.Helper()
	checkDrop(t, l, print, place, l...)
}

// put puts fingerprints and places, one after the other; the test ends, if one has no slot.
func put(t *testing.T, l []api.Slot, pairs ...[2]int) []api.Slot {
	t.Helper()
	for _, x := range pairs {
		out, errno := Put(l, x[0], x[1])
		if errno != api.OK {
			t.Fatalf("Put(%v, %d, %d): %d", l, x[0], x[1], errno)
		}
		l = out
	}
	return l
}

// J1, J2 and J3: the chapter's example.
func TestTheExample(t *testing.T) {
	l := put(t, make([]api.Slot, 4), [2]int{5, 10}, [2]int{5, 11})
	if !slices.Equal(l, []api.Slot{{}, u(5, 10), u(5, 11), {}}) {
		t.Errorf("5 is put twice: %v", l)
	}
	checkFind(t, l, 5, 10, 11)
	checkDrop(t, l, 5, 10, api.Slot{}, gone(), u(5, 11), api.Slot{})
	checkFind(t, Drop(l, 5, 10), 5, 11)
}

// J1: the errors have the chapter's numbers.
func TestNumbersOfErrors(t *testing.T) {
	if api.ErrArg != 1 || api.ErrFull != 40 {
		t.Errorf("ErrArg %d, ErrFull %d", api.ErrArg, api.ErrFull)
	}
}

// J1: one slot alone changes, whatever was in it, and whatever stands in the others.
func TestPut(t *testing.T) {
	none := api.Slot{}
	checkPut(t, []api.Slot{none}, 0, 9, u(0, 9))
	checkPut(t, make([]api.Slot, 3), 1, 9, none, u(1, 9), none)
	checkPut(t, []api.Slot{u(0, 1), none, none}, 0, 9, u(0, 1), u(0, 9), none)
	checkPut(t, []api.Slot{u(0, 1), u(0, 1), none}, 0, 1, u(0, 1), u(0, 1), u(0, 1))
	checkPut(t, []api.Slot{u(1, 1), none, none}, 0, 9, u(1, 1), u(0, 9), none)
	checkPut(t, []api.Slot{{State: api.Empty, Print: 7, Place: 8}}, 0, 9, u(0, 9))
	checkPut(t, []api.Slot{{State: api.Gone, Print: 7, Place: 8}}, 0, 9, u(0, 9))
}

// J1: ErrArg of each fingerprint below 0, whatever slots there are: also where all are Used, and where there is none.
func TestPutBelowZero(t *testing.T) {
	for _, l := range someSlots() {
		for _, print := range []int{-1, -2, -4, -1 << 32, math.MinInt + 1, math.MinInt} {
			for _, place := range somePlaces() {
				checkNoPut(t, l, print, place, 1)
			}
		}
	}
}

// J1: ErrFull, where each slot is Used, with whatever fingerprints; and where there is no slot.
func TestPutOfNoSlotLeft(t *testing.T) {
	lists := [][]api.Slot{nil, {}, roomy()[:0], {u(-1, -1)}, {u(math.MinInt, 0), u(math.MaxInt, 0)}, alike(9, 3), alike(64, 0)}
	for n := range 20 {
		lists = append(lists, full(n))
	}
	for _, l := range lists {
		for _, print := range somePrints() {
			if print >= 0 {
				checkNoPut(t, l, print, 9, 40)
			}
		}
	}
}

// J1: wherever one begins, the one slot that is not Used is come to, whichever it is.
func TestPutOfOneSlotLeft(t *testing.T) {
	for _, left := range []api.Slot{{}, gone(), {State: 3, Print: 1, Place: 1}, {State: -1}} {
		for i := range 6 {
			for print := range 20 {
				l := full(6)
				l[i] = left
				want := full(6)
				want[i] = u(print, 77)
				checkPut(t, l, print, 77, want...)
			}
		}
	}
}

// J1: behind the last slot one comes to the first one, and to no slot ahead of it.
func TestPutGoesRound(t *testing.T) {
	none := api.Slot{}
	checkPut(t, []api.Slot{none, none, none, u(3, 1)}, 3, 9, u(3, 9), none, none, u(3, 1))
	checkPut(t, []api.Slot{u(3, 2), none, none, u(3, 1)}, 7, 9, u(3, 2), u(7, 9), none, u(3, 1))
	checkPut(t, []api.Slot{none, none, u(6, 1), u(7, 2)}, 2, 9, u(2, 9), none, u(6, 1), u(7, 2))
	checkPut(t, []api.Slot{none, none, u(2, 2), none}, 2, 9, none, none, u(2, 2), u(2, 9))
}

// J1: a slot that is Gone is taken ahead of an Empty one behind it, and an Empty one ahead of one that is Gone behind it.
func TestPutTakesWhatIsGone(t *testing.T) {
	none := api.Slot{}
	checkPut(t, []api.Slot{u(0, 1), gone(), none, none}, 0, 9, u(0, 1), u(0, 9), none, none)
	checkPut(t, []api.Slot{gone(), u(0, 1), none, none}, 0, 9, u(0, 9), u(0, 1), none, none)
	checkPut(t, []api.Slot{u(0, 1), none, gone(), none}, 0, 9, u(0, 1), u(0, 9), gone(), none)
	checkPut(t, []api.Slot{gone(), none, u(2, 1), u(2, 2)}, 2, 9, u(2, 9), none, u(2, 1), u(2, 2))
	checkPut(t, []api.Slot{gone(), gone(), gone()}, 1, 9, gone(), u(1, 9), gone())
}

// J1: a slot of no known State is not Used, either.
func TestPutTakesOtherStates(t *testing.T) {
	for _, state := range []int{3, 7, -1, 1 << 40, math.MinInt, math.MaxInt} {
		l := []api.Slot{u(0, 1), {State: state, Print: 5, Place: 6}, {}}
		checkPut(t, l, 0, 9, u(0, 1), u(0, 9), api.Slot{})
	}
}

// J1: fingerprints far greater than how many slots there are, with remainders that are written out.
func TestPutOfGreatPrints(t *testing.T) {
	for _, x := range []struct{ slots, print, first int }{
		{1, math.MaxInt, 0}, {2, math.MaxInt, 1}, {3, math.MaxInt, 1}, {7, math.MaxInt, 0}, {10, math.MaxInt, 7}, {16, math.MaxInt, 15}, {1000, math.MaxInt, 807},
		{10, math.MaxInt - 1, 6}, {10, 1 << 32, 6}, {1000, 1 << 32, 296}, {16, 1 << 40, 0}, {10, 1_000_003, 3}, {4, 4, 0}, {4, 3, 3}, {4, 7, 3}, {4, 8, 0},
	} {
		want := make([]api.Slot, x.slots)
		want[x.first] = u(x.print, 9)
		checkPut(t, make([]api.Slot, x.slots), x.print, 9, want...)
		checkFind(t, want, x.print, 9)
		want[x.first] = gone()
		checkDrop(t, put(t, make([]api.Slot, x.slots), [2]int{x.print, 9}), x.print, 9, want...)
	}
}

// J1, J2 and J3: any number is a place.
func TestAnyPlace(t *testing.T) {
	for _, place := range somePlaces() {
		checkPut(t, make([]api.Slot, 2), 1, place, api.Slot{}, u(1, place))
		checkFind(t, []api.Slot{{}, u(1, place)}, 1, place)
		checkDrop(t, []api.Slot{{}, u(1, place)}, 1, place, api.Slot{}, gone())
	}
}

// J2: none of a fingerprint below 0, even where slots have it.
func TestFindBelowZero(t *testing.T) {
	for _, l := range append(someSlots(), alike(4, -1), alike(4, math.MinInt), []api.Slot{u(-4, 1), u(-3, 2), u(-2, 3), u(-1, 4)}) {
		for _, print := range []int{-1, -2, -3, -4, -1 << 32, math.MinInt + 1, math.MinInt} {
			checkFind(t, l, print)
		}
	}
}

// J2: none of a fingerprint that no slot has, nor of slots that are not there.
func TestFindOfNone(t *testing.T) {
	for _, print := range somePrints() {
		checkFind(t, nil, print)
		checkFind(t, []api.Slot{}, print)
		checkFind(t, roomy()[:0], print)
		checkFind(t, make([]api.Slot, 9), print)
		checkFind(t, []api.Slot{gone(), gone()}, print)
		checkFind(t, alike(7, 6), print)
	}
	// Slots that one comes to ahead of, or with the same remainder as, the one that is looked for.
	checkFind(t, full(4), 4)
	checkFind(t, full(4), 7)
}

// J2: all slots of a fingerprint, in the order in which one comes to them; slots of others between are no end.
func TestFindOfSeveral(t *testing.T) {
	checkFind(t, []api.Slot{u(0, 3), u(0, 1), u(0, 2), {}}, 0, 3, 1, 2)
	checkFind(t, []api.Slot{u(0, 3), u(0, 3), u(0, 3), {}}, 0, 3, 3, 3)
	checkFind(t, []api.Slot{u(5, 8), u(0, 1), u(1, 7), u(0, 2), u(4, 6), {}}, 0, 1, 2)
	checkFind(t, []api.Slot{u(5, 8), u(0, 1), u(1, 7), u(0, 2), u(4, 6), {}}, 1, 7)
	checkFind(t, []api.Slot{u(4, 1), u(0, 2), u(8, 3), u(4, 4), {}, {}}, 0, 2)
}

// J2: behind the last slot one comes to the first one.
func TestFindGoesRound(t *testing.T) {
	checkFind(t, []api.Slot{u(2, 5), u(2, 6), u(2, 3), u(2, 4)}, 2, 3, 4, 5, 6)
	checkFind(t, []api.Slot{u(2, 5), {}, u(2, 3), u(2, 4)}, 2, 3, 4, 5)
	checkFind(t, []api.Slot{u(9, 5), u(3, 6), {}, u(3, 4)}, 3, 4, 6)
	checkFind(t, []api.Slot{{}, u(3, 6), u(3, 5), u(3, 4)}, 3, 4)
}

// J2: what is Gone, or of no known State, is passed over, and is no end; what it had is not told.
func TestFindPassesOver(t *testing.T) {
	checkFind(t, []api.Slot{gone(), gone(), u(0, 1), gone(), u(0, 2), {}}, 0, 1, 2)
	checkFind(t, []api.Slot{gone(), {}, gone(), u(2, 1)}, 2, 1)
	for _, state := range []int{api.Gone, 3, 7, -1, math.MinInt, math.MaxInt} {
		checkFind(t, []api.Slot{u(0, 1), {State: state, Print: 0, Place: 2}, u(0, 3)}, 0, 1, 3)
	}
}

// J2: what stands behind an Empty slot is not told, whatever the Empty one has.
func TestFindEndsAtAnEmptySlot(t *testing.T) {
	checkFind(t, []api.Slot{{}, u(0, 1)}, 0)
	checkFind(t, []api.Slot{u(0, 1), {}, u(0, 2)}, 0, 1)
	checkFind(t, []api.Slot{u(0, 1), gone(), {}, u(0, 2), gone()}, 0, 1)
	checkFind(t, []api.Slot{u(1, 2), {}, u(1, 3)}, 1)
	checkFind(t, []api.Slot{{State: api.Empty, Print: 0, Place: 5}, u(0, 1)}, 0)
	// The slot where one begins is behind it for those who go round.
	checkFind(t, []api.Slot{{}, u(1, 2), u(1, 3)}, 1, 2, 3)
}

// J2: where no slot is Empty, each one is told once at the most, wherever one begins.
func TestFindWithoutAnEmptySlot(t *testing.T) {
	checkFind(t, []api.Slot{u(0, 1)}, 0, 1)
	for n := 1; n < 12; n++ {
		for first := range n {
			l := alike(n, 5*n+first)
			var want []int
			for i := range n {
				want = append(want, 100+(first+i)%n)
			}
			checkFind(t, l, 5*n+first, want...)
			l[first] = gone()
			checkFind(t, l, 5*n+first, want[1:]...)
		}
	}
}

// J2: what stands behind the length is no slot.
func TestFindBehindTheLength(t *testing.T) {
	all := []api.Slot{u(0, 1), gone(), u(1, 2), u(0, 3), u(1, 4)}
	checkFind(t, all[:3], 0, 1)
	checkFind(t, all[:3], 1, 2)
	checkFind(t, all[:2], 1)
}

// J3: the first one of several with that fingerprint and that place; the others stay.
func TestDropOfSeveral(t *testing.T) {
	l := []api.Slot{u(0, 1), u(0, 2), u(4, 2), u(0, 2), u(0, 1)}
	checkDrop(t, l, 0, 1, gone(), u(0, 2), u(4, 2), u(0, 2), u(0, 1))
	checkDrop(t, l, 0, 2, u(0, 1), gone(), u(4, 2), u(0, 2), u(0, 1))
	checkDrop(t, l, 4, 2, u(0, 1), u(0, 2), gone(), u(0, 2), u(0, 1))
	round := []api.Slot{u(2, 7), u(2, 7), u(2, 6), u(2, 7)}
	checkDrop(t, round, 2, 7, u(2, 7), u(2, 7), u(2, 6), gone())
	checkDrop(t, Drop(round, 2, 7), 2, 7, gone(), u(2, 7), u(2, 6), gone())
	checkDrop(t, Drop(Drop(round, 2, 7), 2, 7), 2, 7, gone(), gone(), u(2, 6), gone())
	checkNoDrop(t, []api.Slot{gone(), gone(), u(2, 6), gone()}, 2, 7)
}

// J3: all of the slot that is dropped is 0, but that it is Gone.
func TestWhatIsDroppedIsGone(t *testing.T) {
	for _, print := range []int{0, 1, 5, math.MaxInt} {
		for _, place := range somePlaces() {
			got := Drop(alike(1, print), print, 100)
			if !slices.Equal(got, []api.Slot{{State: 2, Print: 0, Place: 0}}) {
				t.Errorf("%d is dropped: %v", print, got)
			}
			l := put(t, make([]api.Slot, 3), [2]int{print, place}, [2]int{print, place})
			if got := Drop(l, print, place); got[print%3] != gone() || len(Find(got, print)) != 1 {
				t.Errorf("%d, %d is dropped: %v", print, place, got)
			}
		}
	}
}

// J3: a slot behind what is Gone, and behind others, is dropped.
func TestDropPassesOver(t *testing.T) {
	checkDrop(t, []api.Slot{gone(), u(4, 1), u(0, 9), {State: 7, Print: 0, Place: 1}, u(0, 1), {}}, 0, 1, gone(), u(4, 1), u(0, 9), api.Slot{State: 7, Print: 0, Place: 1}, gone(), api.Slot{})
	checkDrop(t, []api.Slot{u(3, 2), {}, {}, gone()}, 3, 2, gone(), api.Slot{}, api.Slot{}, gone())
}

// J3: as it was, if no slot has that fingerprint with that place, or none that is Used.
func TestDropOfWhatIsNotThere(t *testing.T) {
	checkNoDrop(t, []api.Slot{u(0, 1), u(0, 2), u(4, 3), {}}, 0, 3)
	checkNoDrop(t, []api.Slot{u(0, 1), u(0, 2), u(4, 3), {}}, 4, 1)
	checkNoDrop(t, []api.Slot{u(0, 1), u(0, 2), u(4, 3), {}}, 8, 1)
	for _, state := range []int{api.Gone, 3, -1, math.MinInt, math.MaxInt} {
		checkNoDrop(t, []api.Slot{{State: state, Print: 0, Place: 1}, {State: state}}, 0, 1)
		checkNoDrop(t, []api.Slot{{State: state, Print: 0, Place: 1}, {State: state}}, 0, 0)
	}
	for _, print := range somePrints() {
		for _, place := range somePlaces() {
			for _, l := range [][]api.Slot{nil, {}, roomy()[:0], make([]api.Slot, 5), {gone(), gone()}, alike(7, 6)} {
				checkNoDrop(t, l, print, place)
			}
		}
	}
}

// J3: as it was, if one comes to an Empty slot first.
func TestDropBehindAnEmptySlot(t *testing.T) {
	checkNoDrop(t, []api.Slot{{}, u(0, 1)}, 0, 1)
	checkNoDrop(t, []api.Slot{u(0, 2), {}, u(0, 1)}, 0, 1)
	checkNoDrop(t, []api.Slot{u(1, 1), {}, u(1, 2)}, 1, 1)
	checkNoDrop(t, []api.Slot{{State: api.Empty, Print: 0, Place: 1}, u(0, 1)}, 0, 1)
	checkNoDrop(t, []api.Slot{{State: api.Empty, Print: 0, Place: 1}}, 0, 1)
}

// J3: as it was, with a fingerprint below 0, even where slots have it.
func TestDropBelowZero(t *testing.T) {
	for _, print := range []int{-1, -2, -4, -1 << 32, math.MinInt + 1, math.MinInt} {
		for _, l := range append(someSlots(), alike(4, print)) {
			for _, place := range somePlaces() {
				checkNoDrop(t, l, print, place)
			}
			checkNoDrop(t, l, print, 100)
		}
	}
}

// checkAgainstWords holds all three calls against what the promises' words ask of these slots.
func checkAgainstWords(t *testing.T, l []api.Slot, print, place int) {
	t.Helper()
	var places []int
	dropped, droppedOne := slices.Clone(l), false
	for _, i := range told(l, print) {
		places = append(places, l[i].Place)
		if l[i].Place == place && !droppedOne {
			dropped[i], droppedOne = gone(), true
		}
	}
	checkFind(t, l, print, places...)
	checkDrop(t, l, print, place, dropped...)
	if print < 0 {
		checkNoPut(t, l, print, place, api.ErrArg)
		return
	}
	for _, i := range order(len(l), print) {
		if l[i].State != api.Used {
			want := slices.Clone(l)
			want[i] = u(print, place)
			checkPut(t, l, print, place, want...)
			return
		}
	}
	checkNoPut(t, l, print, place, api.ErrFull)
}

// J1, J2 and J3: all lists of up to four slots of few kinds, and slots of all kinds, held against the words.
func TestAgainstWords(t *testing.T) {
	small(func(l []api.Slot) {
		for print := -1; print < 6; print++ {
			checkAgainstWords(t, l, print, 1)
			checkAgainstWords(t, l, print, 2)
		}
	})
	for _, l := range someSlots() {
		for _, print := range somePrints() {
			for _, place := range somePlaces() {
				checkAgainstWords(t, l, print, place)
			}
		}
	}
}

// stock is how often each place was put with each fingerprint, and not dropped: an index without slots.
type stock map[[2]int]int

// size is how many of all are in stock.
func (s stock) size() int {
	sum := 0
	for _, n := range s {
		sum += n
	}
	return sum
}

// places are those in stock with a fingerprint, rising.
func (s stock) places(print int) []int {
	var out []int
	for pair, n := range s {
		if pair[0] == print {
			out = append(out, slices.Repeat([]int{pair[1]}, n)...)
		}
	}
	slices.Sort(out)
	return out
}

// checkStock wants that what Find tells of each fingerprint is what is in stock, in whatever order.
func (s stock) checkStock(t *testing.T, l []api.Slot, prints []int) {
	t.Helper()
	for _, print := range prints {
		got := slices.Sorted(slices.Values(Find(l, print)))
		if want := s.places(print); !slices.Equal(got, want) {
			t.Fatalf("%d is found with %v, want %v, in %v", print, got, want, l)
		}
	}
}

// putBoth puts into slots and into stock; no slot is left just where all are Used.
func (s stock) putBoth(t *testing.T, l []api.Slot, print, place int) []api.Slot {
	t.Helper()
	out, errno := Put(l, print, place)
	if s.size() == len(l) {
		if errno != api.ErrFull || len(out) != 0 {
			t.Fatalf("all are Used: Put(%v, %d, %d) = %v, %d", l, print, place, out, errno)
		}
		return l
	}
	if errno != api.OK || len(out) != len(l) {
		t.Fatalf("%d are Used: Put(%v, %d, %d) = %v, %d", s.size(), l, print, place, out, errno)
	}
	s[[2]int{print, place}]++
	return out
}

// dropBoth drops from slots and from stock; what is not there changes nothing.
func (s stock) dropBoth(t *testing.T, l []api.Slot, print, place int) []api.Slot {
	t.Helper()
	out := Drop(l, print, place)
	if s[[2]int{print, place}] == 0 {
		checkNoDrop(t, l, print, place)
		return out
	}
	s[[2]int{print, place}]--
	return out
}

// J4: over many Puts and Drops, on many counts of slots, what was put and not dropped is found as often as it was put.
func TestWhatWasPutIsFound(t *testing.T) {
	for _, n := range []int{0, 1, 2, 3, 4, 7, 16, 33} {
		prints := []int{0, 1, 2, 3, n, n + 1, 2*n + 1, 5*n + 3, 15, 1 << 32, math.MaxInt - 1, math.MaxInt}
		slices.Sort(prints)
		prints = slices.Compact(prints)
		l, s, seed, used := make([]api.Slot, n), stock{}, uint32(n+1), 0
		for step := range 4000 {
			seed = seed*1664525 + 1013904223
			print, place := prints[int(seed>>8)%len(prints)], int(seed>>20)%3-1
			// By turns more is put than dropped, and more dropped than put, so that all are Used now and then, and none.
			puts := uint32(3)
			if step/200%2 == 1 {
				puts = 1
			}
			if seed>>28%4 < puts {
				l = s.putBoth(t, l, print, place)
			} else {
				l = s.dropBoth(t, l, print, place)
			}
			used = max(used, s.size())
			s.checkStock(t, l, prints)
		}
		if used != n {
			t.Errorf("of %d slots at most %d were Used", n, used)
		}
	}
}

// J4: each way of up to five Puts and Drops of three fingerprints, on up to three slots.
func TestEachWayOfFewCalls(t *testing.T) {
	pairs := [][2]int{{0, 8}, {1, 8}, {3, 8}, {3, 9}}
	var try func(l []api.Slot, s stock, left int)
	try = func(l []api.Slot, s stock, left int) {
		s.checkStock(t, l, []int{0, 1, 3})
		if left == 0 {
			return
		}
		for _, x := range pairs {
			more := stock{}
			for pair, n := range s {
				more[pair] = n
			}
			try(more.putBoth(t, l, x[0], x[1]), more, left-1)
			less := stock{}
			for pair, n := range s {
				less[pair] = n
			}
			try(less.dropBoth(t, l, x[0], x[1]), less, left-1)
		}
	}
	for n := range 4 {
		try(make([]api.Slot, n), stock{}, 5)
	}
}

// J4: a table that was filled, and of which all was dropped, is filled again, though no slot is Empty any more.
func TestFilledAndDropped(t *testing.T) {
	for _, n := range []int{1, 2, 5, 64, 300} {
		l, s := make([]api.Slot, n), stock{}
		prints := []int{0, 3, n - 1, n, math.MaxInt}
		slices.Sort(prints)
		prints = slices.Compact(prints)
		for range 3 {
			for i := range n + 2 {
				l = s.putBoth(t, l, prints[i%len(prints)], i/2)
			}
			s.checkStock(t, l, prints)
			for i := range n + 2 {
				l = s.dropBoth(t, l, prints[i%len(prints)], i/2)
			}
			s.checkStock(t, l, prints)
			if !slices.Equal(l, slices.Repeat([]api.Slot{gone()}, n)) {
				t.Fatalf("all was dropped: %v", l)
			}
		}
	}
}

// R3: no list that is handed in has changed behind any call, nor what stands behind its length.
func TestSlotsAreLeft(t *testing.T) {
	for _, l := range someSlots() {
		before := whole(l)
		for _, print := range somePrints() {
			for _, place := range somePlaces() {
				Put(l, print, place)
				Find(l, print)
				Drop(l, print, place)
			}
		}
		for _, slot := range l {
			Drop(l, slot.Print, slot.Place)
		}
		if !slices.Equal(whole(l), before) {
			t.Errorf("the slots have become %v, were %v", whole(l), before)
		}
	}
}

// spoil writes into all that a list of slots has, and behind it.
func spoil(l []api.Slot) {
	for i := range l {
		l[i] = u(-9, -9)
	}
	_ = append(l, u(-9, -9))
}

// R4: whoever writes into an answer changes neither what was handed in nor a later answer.
func TestAnswersAreApart(t *testing.T) {
	for _, l := range someSlots() {
		before := whole(l)
		for _, print := range somePrints() {
			for _, place := range []int{1, 4, 9} {
				one, _ := Put(l, print, place)
				spoil(one)
				spoil(Drop(l, print, place))
				places := Find(l, print)
				for i := range places {
					places[i] = -9
				}
				_ = append(places, -9)
				if !slices.Equal(whole(l), before) {
					t.Fatalf("the slots have become %v with an answer, were %v", whole(l), before)
				}
				checkAgainstWords(t, l, print, place)
			}
		}
	}
}

// checkLeft wants that an iterator tells these slots, and that it ends wherever it is left.
func checkLeft(t *testing.T, l []api.Slot, slots iter.Seq2[int, api.Slot], want []int) {
	t.Helper()
	for stop := range len(want) + 1 {
		var some []int
		for i, slot := range slots {
			if slot != l[i] {
				t.Fatalf("%d is told of %v", i, slot)
			}
			some = append(some, i)
			if len(some) == stop {
				break
			}
		}
		// Left behind none, that is at no time, it tells all.
		end := stop
		if stop == 0 {
			end = len(want)
		}
		if !slices.Equal(some, want[:end]) {
			t.Errorf("left behind %d: %v, want %v", stop, some, want[:end])
		}
	}
}

// The iterators tell each slot once at the most, in the order in which one comes to it, and may be left.
func TestWaysMayBeLeft(t *testing.T) {
	for _, l := range someSlots() {
		if len(l) > 20 {
			continue
		}
		for _, print := range somePrints() {
			if print < 0 {
				checkLeft(t, l, way(l, print), nil)
			} else {
				checkLeft(t, l, way(l, print), order(len(l), print))
			}
			checkLeft(t, l, having(l, print), told(l, print))
		}
	}
}
