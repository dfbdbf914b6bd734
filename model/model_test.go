package model

import (
	"math"
	"math/big"
	"slices"
	"strconv"
	"strings"
	"testing"

	"clinker/api"
)

// long16 are data as long as they may be, long17 a text that is too long.
const (
	long16 = "0123456789abcdef"
	long17 = "0123456789abcdefg"
)

func read(first, count int) api.Command {
	return api.Command{Kind: api.CmdRead, First: first, Count: count}
}

func write(first int, data ...string) api.Command {
	return api.Command{Kind: api.CmdWrite, First: first, Data: data}
}

func trim(first, count int) api.Command {
	return api.Command{Kind: api.CmdTrim, First: first, Count: count}
}

func flush(first, count int, data ...string) api.Command {
	return api.Command{Kind: api.CmdFlush, First: first, Count: count, Data: data}
}

// list is a list of data.
func list(data ...string) []string { return data }

// named are n sectors, each with data of its own, which begin with a letter.
func named(letter string, n int) []string {
	m := make([]string, n)
	for i := range m {
		m[i] = letter + strconv.Itoa(i)
	}
	return m
}

// roomy are three texts with others behind their length.
func roomy() []string { return list("p", "q", "r", "behind", "it", "all")[:3] }

// whole is a copy of l with what stands behind its length, too, up to its capacity.
func whole(l []string) []string { return slices.Clone(l[:cap(l)]) }

// someSectors are lists of sectors, as New and Do make them, and others.
func someSectors() [][]string {
	return [][]string{
		nil, {}, {""}, {"a"}, {"a", "", "c"}, {"", "", "", ""}, named("s", 8), named("s", 63), named("s", 64), named("s", 65), named("s", 200),
		{long16, long17, strings.Repeat("x", 5000), "\x00\xff", "é"}, roomy(), roomy()[:0], roomy()[1:2],
	}
}

// someNumbers are numbers, at the edges of int, too.
func someNumbers() []int {
	return []int{
		math.MinInt, math.MinInt + 1, -1 << 40, -65, -3, -1, 0, 1, 2, 3, 4, 5, 7, 8, 9, 62, 63, 64, 65, 66, 199, 200, 201,
		1 << 32, 1<<40 + 1, math.MaxInt - 64, math.MaxInt - 1, math.MaxInt,
	}
}

// someKinds are kinds of commands, and numbers that are none.
func someKinds() []int {
	return []int{math.MinInt, -3, -1, 0, api.CmdRead, api.CmdWrite, api.CmdTrim, api.CmdFlush, 5, 6, 257, 1<<32 + 1, math.MaxInt}
}

// someData are Data of commands, some of which may not be.
func someData() [][]string {
	return [][]string{
		nil, {}, {""}, {"x"}, {"x", "", "z"}, {long16}, {long17}, {"x", long17}, {long17, "x"}, {"x", long16, "\x00", ""}, roomy(), roomy()[:0],
		named("d", 8), named("d", 64), named("d", 65), append(named("d", 64), long17), named("d", 300), {strings.Repeat("x", 5000)},
	}
}

// someCommands tells commands of every kind with all of these numbers and Data.
func someCommands(firsts, counts []int, data [][]string, tell func(api.Command)) {
	for _, kind := range someKinds() {
		for _, first := range firsts {
			for _, count := range counts {
				for _, d := range data {
					tell(api.Command{Kind: kind, First: first, Count: count, Data: d})
				}
			}
		}
	}
}

// manyOf is, by the words, of how many sectors a command is.
func manyOf(c api.Command) int {
	if c.Kind == api.CmdWrite {
		return len(c.Data)
	}
	return c.Count
}

// wordsCheck is, by the words of N2, what Check answers; sums that no int holds are reckoned with, too.
func wordsCheck(n int, c api.Command) api.Errno {
	if c.Kind == api.CmdFlush {
		return api.OK
	}
	if c.Kind == api.CmdWrite {
		for _, d := range c.Data {
			if len(d) > 16 {
				return api.ErrArg
			}
		}
	} else if c.Kind != api.CmdRead && c.Kind != api.CmdTrim {
		return api.ErrArg
	}
	if manyOf(c) < 1 {
		return api.ErrArg
	}
	end := new(big.Int).Add(big.NewInt(int64(c.First)), big.NewInt(int64(manyOf(c))))
	if c.First < 0 || end.Cmp(big.NewInt(int64(n))) > 0 {
		return api.ErrRange
	}
	return api.OK
}

// wordsPart is, by the words of N3 and N4, m in which the first n sectors of c have what it gives them.
func wordsPart(m []string, c api.Command, n int) []string {
	var out []string
	for i, has := range m {
		at := i - c.First
		switch {
		case wordsCheck(len(m), c) != api.OK || at < 0 || at >= n || at >= manyOf(c):
			out = append(out, has)
		case c.Kind == api.CmdWrite:
			out = append(out, c.Data[at])
		case c.Kind == api.CmdTrim:
			out = append(out, "")
		default:
			out = append(out, has)
		}
	}
	return out
}

// wordsData is, by the words of N3, the Data of the answer to c.
func wordsData(m []string, c api.Command) []string {
	var out []string
	for i, has := range m {
		if c.Kind == api.CmdRead && wordsCheck(len(m), c) == api.OK && i >= c.First && i-c.First < c.Count {
			out = append(out, has)
		}
	}
	return out
}

// spoil writes into all of a list, and behind its length.
func spoil(l []string) {
	for i := range l[:cap(l)] {
		l[:cap(l)][i] = "spoilt"
	}
}

// checkDo does c, and holds what Do answers against what is wanted; nothing handed in may change, neither by the call nor by
// a writing into what came out, and neither list that came out by a writing into the other.
func checkDo(t *testing.T, m []string, c api.Command, want []string, errno api.Errno, data ...string) {
	t.Helper()
	m0, d0 := whole(m), whole(c.Data)
	after, a := Do(m, c)
	if a.Errno != errno || !slices.Equal(a.Data, data) {
		t.Fatalf("Do of %d sectors, kind %d, First %d, Count %d, %d Data: answered %d %.200q, not %d %.200q",
			len(m), c.Kind, c.First, c.Count, len(c.Data), a.Errno, a.Data, errno, data)
	}
	if !slices.Equal(after, want) {
		t.Fatalf("Do of %d sectors, kind %d, First %d, Count %d, %d Data: %.200q, not %.200q",
			len(m), c.Kind, c.First, c.Count, len(c.Data), after, want)
	}
	spoil(a.Data)
	if !slices.Equal(after, want) {
		t.Fatalf("Do, kind %d, First %d, Count %d: the answer's Data are the sectors that came out", c.Kind, c.First, c.Count)
	}
	spoil(after)
	checkKept(t, m, m0, c, d0)
}

// checkPart holds what Part answers against what is wanted, and looks after what was handed in.
func checkPart(t *testing.T, m []string, c api.Command, n int, want []string) {
	t.Helper()
	m0, d0 := whole(m), whole(c.Data)
	got := Part(m, c, n)
	if !slices.Equal(got, want) {
		t.Fatalf("Part of %d sectors, kind %d, First %d, Count %d, %d Data, n %d: %.200q, not %.200q",
			len(m), c.Kind, c.First, c.Count, len(c.Data), n, got, want)
	}
	spoil(got)
	checkKept(t, m, m0, c, d0)
}

// checkKept holds what was handed in against what it was.
func checkKept(t *testing.T, m, m0 []string, c api.Command, d0 []string) {
	t.Helper()
	if !slices.Equal(whole(m), m0) {
		t.Fatalf("R3: kind %d, First %d, Count %d, %d Data: the sectors that were handed in have changed", c.Kind, c.First, c.Count, len(c.Data))
	}
	if !slices.Equal(whole(c.Data), d0) {
		t.Fatalf("R3: kind %d, First %d, Count %d, %d Data: the Data that were handed in have changed", c.Kind, c.First, c.Count, len(c.Data))
	}
}

func TestExample(t *testing.T) {
	m, a := Do(New(3), write(1, "a", "b"))
	if a.Errno != api.OK || len(a.Data) != 0 {
		t.Fatalf("the write: %d %q", a.Errno, a.Data)
	}
	checkDo(t, m, read(0, 3), list("", "a", "b"), api.OK, "", "a", "b")
}

func TestNew(t *testing.T) {
	for n, want := range map[int]int{
		math.MinInt: 0, -65: 0, -1: 0, 0: 0, 1: 1, 2: 2, 63: 63, 64: 64, 65: 64, 128: 64, 1 << 32: 64, math.MaxInt: 64,
	} {
		m := New(n)
		if len(m) != want {
			t.Fatalf("N1: New(%d): %d sectors, not %d", n, len(m), want)
		}
		for i, has := range m {
			if has != "" {
				t.Fatalf("N1: New(%d): sector %d has %q", n, i, has)
			}
		}
		spoil(m)
		if again := New(n); len(again) != want || slices.Contains(again, "spoilt") {
			t.Fatalf("R3, R4: New(%d), behind a writing into what it answered: %q", n, again)
		}
	}
}

func TestCheckOfKinds(t *testing.T) {
	for _, kind := range someKinds() {
		c := api.Command{Kind: kind, First: 1, Count: 2, Data: list("x", "y")}
		want := api.OK
		if kind < api.CmdRead || kind > api.CmdFlush {
			want = api.ErrArg
		}
		if got := Check(3, c); got != want {
			t.Errorf("N2: kind %d: %d, not %d", kind, got, want)
		}
		// A kind that is none goes ahead of sectors that there are not.
		c.First = 3
		if want == api.OK && kind != api.CmdFlush {
			want = api.ErrRange
		}
		if got := Check(3, c); got != want {
			t.Errorf("N2: kind %d beyond the sectors: %d, not %d", kind, got, want)
		}
	}
}

func TestCheckOfData(t *testing.T) {
	for i, x := range []struct {
		n    int
		c    api.Command
		want api.Errno
	}{
		{2, write(0, long16), api.OK},
		{2, write(0, long17), api.ErrArg},
		{2, write(0, long16, long16), api.OK},
		{2, write(0, "x", long17), api.ErrArg},
		{2, write(0, long17, "x"), api.ErrArg},
		{2, write(2, long17), api.ErrArg},
		{2, write(-1, long17), api.ErrArg},
		{2, write(0, "x", "y", long17), api.ErrArg},
		{0, write(0, long17), api.ErrArg},
		{2, write(2, long16), api.ErrRange},
		{2, write(0, "x", "y", "z"), api.ErrRange},
		{2, write(0, "", ""), api.OK},
		{2, write(0), api.ErrArg},
		{2, write(-1), api.ErrArg},
		{2, write(9), api.ErrArg},
		// Of a write there are as many sectors as Data, whatever Count is; of all else the Data do not matter.
		{2, api.Command{Kind: api.CmdWrite, Count: 2}, api.ErrArg},
		{2, api.Command{Kind: api.CmdWrite, Count: 9, Data: list("x")}, api.OK},
		{2, api.Command{Kind: api.CmdWrite, Count: -9, Data: list("x")}, api.OK},
		{2, api.Command{Kind: api.CmdRead, Count: 1, Data: list(long17, "x", "y", "z")}, api.OK},
		{2, api.Command{Kind: api.CmdRead, Data: list("x")}, api.ErrArg},
		{2, api.Command{Kind: api.CmdTrim, Count: 1, Data: list(long17, "x", "y", "z")}, api.OK},
		{2, api.Command{Kind: api.CmdTrim, Data: list("x")}, api.ErrArg},
	} {
		if got := Check(x.n, x.c); got != x.want {
			t.Errorf("N2: %d: %d, not %d", i, got, x.want)
		}
	}
}

func TestCheckOfFlush(t *testing.T) {
	for _, first := range someNumbers() {
		for _, data := range someData() {
			c := flush(first, first, data...)
			for _, n := range []int{math.MinInt, -1, 0, 1, 64, math.MaxInt} {
				if got := Check(n, c); got != api.OK {
					t.Fatalf("N2: of %d sectors, a flush with First %d and %d Data: %d", n, first, len(data), got)
				}
			}
		}
	}
}

func TestCheckOfSectors(t *testing.T) {
	for i, x := range []struct {
		n, first, many int
		want           api.Errno
	}{
		{4, 0, -1, api.ErrArg}, {4, 0, 0, api.ErrArg}, {4, 0, 1, api.OK}, {4, 0, math.MinInt, api.ErrArg},
		{4, -1, 0, api.ErrArg}, {4, 4, 0, api.ErrArg}, {4, math.MaxInt, -1, api.ErrArg}, {4, math.MinInt, math.MinInt, api.ErrArg},
		{4, -1, 1, api.ErrRange}, {4, -1, 2, api.ErrRange}, {4, math.MinInt, 1, api.ErrRange}, {4, math.MinInt, math.MaxInt, api.ErrRange},
		{4, 3, 1, api.OK}, {4, 4, 1, api.ErrRange}, {4, 5, 1, api.ErrRange},
		{4, 0, 4, api.OK}, {4, 0, 5, api.ErrRange}, {4, 1, 3, api.OK}, {4, 1, 4, api.ErrRange}, {4, 3, 2, api.ErrRange},
		{4, math.MaxInt, 1, api.ErrRange}, {4, 1, math.MaxInt, api.ErrRange}, {4, 3, math.MaxInt, api.ErrRange}, {4, math.MaxInt, math.MaxInt, api.ErrRange},
		{0, 0, 1, api.ErrRange}, {0, 0, 0, api.ErrArg}, {-1, 0, 1, api.ErrRange}, {-1, -1, 1, api.ErrRange}, {-4, -5, 1, api.ErrRange},
		{math.MinInt, 0, 1, api.ErrRange}, {math.MinInt, math.MaxInt, 1, api.ErrRange}, {math.MinInt, math.MaxInt, math.MaxInt, api.ErrRange},
		{64, 63, 1, api.OK}, {64, 64, 1, api.ErrRange}, {65, 64, 1, api.OK}, {200, 100, 100, api.OK}, {200, 100, 101, api.ErrRange},
		{math.MaxInt, 0, math.MaxInt, api.OK}, {math.MaxInt, 1, math.MaxInt, api.ErrRange}, {math.MaxInt, math.MaxInt - 1, 1, api.OK},
		{math.MaxInt, math.MaxInt, 1, api.ErrRange}, {math.MaxInt, 1, math.MaxInt - 1, api.OK},
	} {
		if got := Check(x.n, read(x.first, x.many)); got != x.want {
			t.Errorf("N2: %d: a read: %d, not %d", i, got, x.want)
		}
		if got := Check(x.n, trim(x.first, x.many)); got != x.want {
			t.Errorf("N2: %d: a trim: %d, not %d", i, got, x.want)
		}
		if x.many > 300 {
			continue
		}
		if got := Check(x.n, write(x.first, named("d", max(x.many, 0))...)); got != x.want {
			t.Errorf("N2: %d: a write: %d, not %d", i, got, x.want)
		}
	}
}

func TestCheckByTheWords(t *testing.T) {
	someCommands(someNumbers(), someNumbers(), someData()[:11], func(c api.Command) {
		for _, n := range someNumbers() {
			if got, want := Check(n, c), wordsCheck(n, c); got != want {
				t.Fatalf("N2: of %d sectors, kind %d, First %d, Count %d, %d Data: %d, not %d", n, c.Kind, c.First, c.Count, len(c.Data), got, want)
			}
		}
	})
}

func TestCheckOfSmallByTheWords(t *testing.T) {
	few := []int{-2, -1, 0, 1, 2, 3, 4, 5, 6}
	someCommands(few, few, someData(), func(c api.Command) {
		d0 := whole(c.Data)
		for _, n := range few {
			if got, want := Check(n, c), wordsCheck(n, c); got != want {
				t.Fatalf("N2: of %d sectors, kind %d, First %d, Count %d, %d Data: %d, not %d", n, c.Kind, c.First, c.Count, len(c.Data), got, want)
			}
		}
		checkKept(t, nil, nil, c, d0)
	})
}

func TestDoOfRefused(t *testing.T) {
	m := list("a", "", "c", "d")
	for _, x := range []struct {
		c     api.Command
		errno api.Errno
	}{
		{api.Command{}, api.ErrArg}, {api.Command{Kind: 5, Count: 1, Data: list("x")}, api.ErrArg}, {api.Command{Kind: -1, Count: 1, Data: list("x")}, api.ErrArg},
		{read(0, 0), api.ErrArg}, {read(0, -1), api.ErrArg}, {read(-1, 1), api.ErrRange}, {read(4, 1), api.ErrRange}, {read(0, 5), api.ErrRange},
		{read(3, math.MaxInt), api.ErrRange}, {trim(0, 0), api.ErrArg}, {trim(0, -1), api.ErrArg}, {trim(-1, 2), api.ErrRange}, {trim(3, 2), api.ErrRange},
		{trim(1, math.MaxInt), api.ErrRange}, {write(0), api.ErrArg}, {write(0, "x", long17), api.ErrArg}, {write(3, "x", "y"), api.ErrRange},
		{write(-1, "x", "y"), api.ErrRange}, {write(4, "x"), api.ErrRange}, {write(9, long17), api.ErrArg}, {write(0, "p", "q", "r", "s", "t"), api.ErrRange},
	} {
		checkDo(t, m, x.c, m, x.errno)
	}
	// There are as many sectors as m has, none behind its length.
	checkDo(t, roomy(), read(2, 2), roomy(), api.ErrRange)
	checkDo(t, roomy(), trim(3, 1), roomy(), api.ErrRange)
	checkDo(t, roomy(), write(2, "x", "y"), roomy(), api.ErrRange)
	checkDo(t, nil, read(0, 1), nil, api.ErrRange)
	checkDo(t, nil, write(0, "x"), nil, api.ErrRange)
	checkDo(t, list(), trim(0, 1), nil, api.ErrRange)
}

func TestDo(t *testing.T) {
	m := list("a", "", long16, "d")
	checkDo(t, m, read(0, 1), m, api.OK, "a")
	checkDo(t, m, read(1, 1), m, api.OK, "")
	checkDo(t, m, read(3, 1), m, api.OK, "d")
	checkDo(t, m, read(1, 2), m, api.OK, "", long16)
	checkDo(t, m, read(0, 4), m, api.OK, m...)
	checkDo(t, m, write(0, "x"), list("x", "", long16, "d"), api.OK)
	checkDo(t, m, write(3, "x"), list("a", "", long16, "x"), api.OK)
	checkDo(t, m, write(1, "x", "y"), list("a", "x", "y", "d"), api.OK)
	checkDo(t, m, write(0, "w", "x", "y", "z"), list("w", "x", "y", "z"), api.OK)
	checkDo(t, m, write(0, "", "x", ""), list("", "x", "", "d"), api.OK)
	checkDo(t, m, write(2, "d", long16), list("a", "", "d", long16), api.OK)
	checkDo(t, m, trim(0, 1), list("", "", long16, "d"), api.OK)
	checkDo(t, m, trim(3, 1), list("a", "", long16, ""), api.OK)
	checkDo(t, m, trim(1, 2), list("a", "", "", "d"), api.OK)
	checkDo(t, m, trim(0, 4), list("", "", "", ""), api.OK)
	checkDo(t, m, flush(0, 0), m, api.OK)
	checkDo(t, m, flush(0, 2, "x", "y"), m, api.OK)
	checkDo(t, m, flush(-9, math.MaxInt, long17), m, api.OK)
	checkDo(t, nil, flush(0, 0), nil, api.OK)
	// A write's Count, and the Data of a read or a trim, tell nothing.
	checkDo(t, m, api.Command{Kind: api.CmdWrite, First: 1, Count: 3, Data: list("x")}, list("a", "x", long16, "d"), api.OK)
	checkDo(t, m, api.Command{Kind: api.CmdRead, First: 1, Count: 1, Data: list("x", "y")}, m, api.OK, "")
	checkDo(t, m, api.Command{Kind: api.CmdTrim, First: 2, Count: 1, Data: list("x", "y")}, list("a", "", "", "d"), api.OK)
}

func TestDoOfMoreThanMaxSectors(t *testing.T) {
	m := named("s", 200)
	checkDo(t, m, read(0, 200), m, api.OK, m...)
	checkDo(t, m, read(199, 1), m, api.OK, "s199")
	checkDo(t, m, read(60, 10), m, api.OK, m[60:70]...)
	checkDo(t, m, read(200, 1), m, api.ErrRange)
	checkDo(t, m, write(199, "x"), append(named("s", 199), "x"), api.OK)
	checkDo(t, m, write(0, named("d", 200)...), named("d", 200), api.OK)
	checkDo(t, m, trim(64, 136), append(named("s", 64), make([]string, 136)...), api.OK)
	checkDo(t, m, trim(64, 137), m, api.ErrRange)
}

func TestDoByTheWords(t *testing.T) {
	few := []int{math.MinInt, -1, 0, 1, 2, 4, 64, 199, math.MaxInt}
	for _, m := range someSectors() {
		someCommands(few, few, someData(), func(c api.Command) {
			checkDo(t, m, c, wordsPart(m, c, math.MaxInt), wordsCheck(len(m), c), wordsData(m, c)...)
		})
	}
}

func TestDoOfItself(t *testing.T) {
	// What is written may stand in the same list as the sectors.
	m := list("a", "b", "c", "d")
	checkDo(t, m, write(1, m[:3]...), list("a", "a", "b", "c"), api.OK)
	checkDo(t, m, write(0, m[1:]...), list("b", "c", "d", "d"), api.OK)
	checkPart(t, m, write(1, m[:3]...), 2, list("a", "a", "b", "d"))
}

func TestPart(t *testing.T) {
	m := list("a", "b", "c", "d")
	w := write(1, "x", "", "z")
	for n, want := range map[int][]string{
		math.MinInt: m, -1: m, 0: m, 1: {"a", "x", "c", "d"}, 2: {"a", "x", "", "d"}, 3: {"a", "x", "", "z"}, 4: {"a", "x", "", "z"},
		64: {"a", "x", "", "z"}, math.MaxInt: {"a", "x", "", "z"},
	} {
		checkPart(t, m, w, n, want)
	}
	for n, want := range map[int][]string{
		math.MinInt: m, -1: m, 0: m, 1: {"a", "b", "", "d"}, 2: {"a", "b", "", ""}, 3: {"a", "b", "", ""}, math.MaxInt: {"a", "b", "", ""},
	} {
		checkPart(t, m, trim(2, 2), n, want)
	}
	for _, n := range someNumbers() {
		for _, c := range []api.Command{
			read(0, 4), read(1, 1), flush(0, 0), flush(0, 4, "w", "x", "y", "z"), {}, {Kind: 5, Count: 2, Data: list("x", "y")}, {Kind: -1, Count: 2, Data: list("x", "y")},
			{Kind: api.CmdRead, First: 1, Count: 2, Data: list("x", "y")}, {Kind: api.CmdTrim, First: 1, Data: list("x", "y")},
			write(0), write(0, "x", long17), write(3, "x", "y"), write(-1, "x", "y"), write(4, "x"), trim(0, 0), trim(3, 2), trim(-1, 2), trim(4, 1),
			trim(1, math.MaxInt), trim(0, -1),
		} {
			checkPart(t, m, c, n, m)
		}
		checkPart(t, nil, w, n, nil)
		checkPart(t, roomy(), trim(2, 2), n, roomy())
	}
}

func TestPartByTheWords(t *testing.T) {
	few := []int{-1, 0, 1, 2, 64, math.MaxInt}
	data := [][]string{nil, {""}, {"x", "", "z"}, {"x", long17}, roomy(), named("d", 8), named("d", 64), named("d", 65)}
	for _, m := range someSectors() {
		someCommands(few, few, data, func(c api.Command) {
			for _, n := range []int{math.MinInt, 0, 1, 2, 7, 64, math.MaxInt} {
				checkPart(t, m, c, n, wordsPart(m, c, n))
			}
		})
	}
}

// checkRead holds what a read of sectors answers against what is wanted.
func checkRead(t *testing.T, m []string, first int, want ...string) {
	t.Helper()
	if _, a := Do(m, read(first, len(want))); a.Errno != api.OK || !slices.Equal(a.Data, want) {
		t.Fatalf("N5: a read of %d from %d on: %d %.200q, not %.200q", len(want), first, a.Errno, a.Data, want)
	}
}

// others are commands of sectors beside those from first on, as many as there are Data; and reads, flushes, and what is refused.
func others(n, first, many int) []api.Command {
	var out []api.Command
	for i := range n {
		if i < first || i >= first+many {
			out = append(out, write(i, "o"), trim(i, 1))
		}
		out = append(out, read(i, n-i), flush(i, 1, "o"), write(i, long17), write(i), trim(i, 0), trim(i, n+1), write(i-n, "o"))
	}
	if first > 0 {
		out = append(out, trim(0, first), write(0, named("o", first)...))
	}
	if rest := n - first - many; rest > 0 {
		out = append(out, trim(first+many, rest), write(first+many, named("o", rest)...))
	}
	return out
}

func TestWrittenIsRead(t *testing.T) {
	const n = 5
	for first := range n {
		for many := 1; first+many <= n; many++ {
			data := named("w", many)
			m, _ := Do(named("s", n), write(first, data...))
			checkRead(t, m, first, data...)
			for _, c := range others(n, first, many) {
				m, _ = Do(m, c)
				checkRead(t, m, first, data...)
			}
			m, _ = Do(m, trim(first, 1))
			checkRead(t, m, first, append(list(""), data[1:]...)...)
			m, _ = Do(m, trim(first, many))
			checkRead(t, m, first, make([]string, many)...)
			for _, c := range others(n, first, many) {
				m, _ = Do(m, c)
				checkRead(t, m, first, make([]string, many)...)
			}
			m, _ = Do(m, write(first+many-1, "new"))
			checkRead(t, m, first+many-1, "new")
		}
	}
}

// smallCommands are all commands of n sectors, and some that are refused; what is written begins with a letter.
func smallCommands(n int, letter string) []api.Command {
	out := []api.Command{flush(0, 0), flush(1, 2, "f"), write(n, letter), trim(-1, 1), read(0, n+1), {Kind: 5, Count: 1}}
	for first := range n {
		for many := 1; first+many <= n; many++ {
			out = append(out, read(first, many), trim(first, many), write(first, named(letter, many)...), write(first, make([]string, many)...))
		}
	}
	return out
}

// touches are the sectors that a command is of, as bits; none of a flush, or of what is refused.
func touches(n int, c api.Command) int {
	bits := 0
	if c.Kind != api.CmdFlush && wordsCheck(n, c) == api.OK {
		for i := range manyOf(c) {
			bits |= 1 << (c.First + i)
		}
	}
	return bits
}

func TestEitherOrder(t *testing.T) {
	const n = 4
	m := named("s", n)
	pairs := 0
	for _, c := range smallCommands(n, "c") {
		for _, d := range smallCommands(n, "d") {
			if touches(n, c)&touches(n, d) != 0 {
				continue
			}
			pairs++
			one, c1 := Do(m, c)
			one, d1 := Do(one, d)
			two, d2 := Do(m, d)
			two, c2 := Do(two, c)
			if !slices.Equal(one, two) {
				t.Fatalf("N5: %+v and %+v: %q, in the other order %q", c, d, one, two)
			}
			if c1.Errno != c2.Errno || d1.Errno != d2.Errno || !slices.Equal(c1.Data, c2.Data) || !slices.Equal(d1.Data, d2.Data) {
				t.Fatalf("N5: %+v and %+v: answered %v %v, in the other order %v %v", c, d, c1, d1, c2, d2)
			}
		}
	}
	if pairs < 500 {
		t.Fatalf("only %d pairs of commands of unlike sectors", pairs)
	}
}

// checkParts goes through all parts of c, one behind the other.
func checkParts(t *testing.T, m []string, c api.Command) {
	t.Helper()
	many := manyOf(c)
	one, behind := m, m
	for n := range many + 1 {
		if n > 0 {
			// The n-th sector alone, as a command of its own.
			single := trim(c.First+n-1, 1)
			if c.Kind == api.CmdWrite {
				single = write(c.First+n-1, c.Data[n-1])
			}
			one, _ = Do(one, single)
		}
		part := Part(m, c, n)
		if !slices.Equal(part, one) {
			t.Fatalf("N5: kind %d, First %d, part %d of %d: %q, by one sector behind the other %q", c.Kind, c.First, n, many, part, one)
		}
		if behind = Part(behind, c, n); !slices.Equal(behind, part) {
			t.Fatalf("N5: kind %d, First %d, part %d of %d: %q, behind the part ahead of it %q", c.Kind, c.First, n, many, part, behind)
		}
		if all, _ := Do(part, c); !slices.Equal(all, wordsPart(m, c, many)) {
			t.Fatalf("N5: kind %d, First %d, all of it behind part %d of %d: %q", c.Kind, c.First, n, many, all)
		}
	}
	if all, _ := Do(m, c); !slices.Equal(one, all) {
		t.Fatalf("N5: kind %d, First %d: all parts: %q, the whole %q", c.Kind, c.First, one, all)
	}
}

func TestAllParts(t *testing.T) {
	for n := range 9 {
		for first := range n {
			for many := 1; first+many <= n; many++ {
				checkParts(t, named("s", n), write(first, named("w", many)...))
				checkParts(t, named("s", n), write(first, make([]string, many)...))
				checkParts(t, named("s", n), trim(first, many))
				checkParts(t, New(n), write(first, named("w", many)...))
			}
		}
	}
	checkParts(t, named("s", 64), write(0, named("w", 64)...))
	checkParts(t, named("s", 64), trim(0, 64))
	checkParts(t, named("s", 200), write(60, named("w", 80)...))
}

func TestLongRuns(t *testing.T) {
	seed := uint32(13)
	random := func(n int) int {
		seed = seed*1664525 + 1013904223
		return int(seed>>8) % n
	}
	for _, n := range []int{1, 2, 7, 64} {
		m := New(n)
		has := map[int]string{} // what each sector was given last
		for step := range 4000 {
			first, many := random(n+2)-1, random(n+2)
			c := api.Command{Kind: random(6), First: first, Count: many}
			if c.Kind == api.CmdWrite {
				c.Data = named(strconv.Itoa(step), many)
				if random(9) == 0 {
					c.Data = append(c.Data, strings.Repeat("x", 15+random(3)))
				}
			}
			next, a := Do(m, c)
			if a.Errno != wordsCheck(n, c) {
				t.Fatalf("N3: step %d: %+v: %d", step, c, a.Errno)
			}
			for i := range manyOf(c) {
				switch {
				case a.Errno != api.OK:
				case c.Kind == api.CmdWrite:
					has[first+i] = c.Data[i]
				case c.Kind == api.CmdTrim:
					delete(has, first+i)
				case c.Kind == api.CmdRead && a.Data[i] != has[first+i]:
					t.Fatalf("N5: step %d: sector %d is read as %q, it was given %q", step, first+i, a.Data[i], has[first+i])
				}
			}
			for i, got := range next {
				if got != has[i] {
					t.Fatalf("N5: step %d: sector %d has %q, it was given %q", step, i, got, has[i])
				}
			}
			m = next
		}
	}
}

func TestNoState(t *testing.T) {
	m := list("a", "b", "c")
	first, a := Do(m, write(1, "x"))
	part := Part(m, trim(0, 3), 2)
	for _, c := range smallCommands(3, "z") {
		Do(m, c)
		Do(first, c)
		Part(m, c, 1)
		Check(3, c)
		New(3)
		again, b := Do(m, write(1, "x"))
		if !slices.Equal(first, again) || a.Errno != b.Errno || len(b.Data) != 0 || !slices.Equal(part, Part(m, trim(0, 3), 2)) {
			t.Fatalf("R4: behind %+v the answers are others", c)
		}
	}
}
