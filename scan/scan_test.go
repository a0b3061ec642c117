package scan

import (
	"math"
	"reflect"
	"slices"
	"testing"

	"pumice/api"
	"pumice/header"
	"pumice/nand"
)

// small: the geometry of the chapters' examples: 12 logical blocks of 14 pages.
var small = api.Geometry{Blocks: 16, Pages: 16, Page: 128, Reserve: 2}

const (
	smallLebs = 12
	smallRoom = 14
)

func is[T comparable](t *testing.T, what string, got, want T) {
	t.Helper()
	if got != want {
		t.Errorf("%s: %+v, not %+v", what, got, want)
	}
}

// page: what is to stand on one: an image, or nothing that can be read.
type page struct {
	data []byte
	torn bool
}

func text(s string) page { return page{data: []byte(s)} }

func torn() page { return page{torn: true} }

// times: the same page so often.
func times(n int, p page) []page { return slices.Repeat([]page{p}, n) }

// counted, mapping: a block's first two pages, on pages of 128 bytes.
func counted(n int) page {
	data, errno := header.Count(n, small.Page)
	if errno != api.OK {
		panic(errno)
	}
	return page{data: data}
}

func mapping(leb int, seq uint64, pages int) page {
	data, errno := header.Mapping(header.Map{Leb: leb, Seq: seq, Pages: pages}, small.Page)
	if errno != api.OK {
		panic(errno)
	}
	return page{data: data}
}

// block: pages of one, in order.
func block(head []page, rest ...page) []page { return append(slices.Clone(head), rest...) }

func pages(l ...page) []page { return l }

// made: a chip with these pages in these blocks.
func made(t *testing.T, g api.Geometry, blocks map[int][]page) *nand.Chip {
	t.Helper()
	c, errno := nand.New(g, nil)
	if errno != api.OK {
		t.Fatalf("New: %d", errno)
	}
	for n, l := range blocks {
		lay(t, c, n, l...)
	}
	return c
}

// lay: pages behind those that a block has.
func lay(t *testing.T, c *nand.Chip, block int, l ...page) {
	t.Helper()
	for _, p := range l {
		want := api.OK
		if p.torn {
			want = api.EIO
			c.Arm([]api.Fault{{At: 1, Kind: api.Fail}})
		}
		if errno := c.Program(block, c.Next(block), p.data); errno != want {
			t.Fatalf("Program(%d, ..): %d, not %d", block, errno, want)
		}
	}
}

// scanned: Scan's list of a chip that is on; the chip must be as it was.
func scanned(t *testing.T, c *nand.Chip) []Block {
	t.Helper()
	was := c.Clone()
	l, errno := Scan(c)
	if errno != api.OK || len(l) != c.Geometry().Blocks {
		t.Fatalf("Scan: %d blocks, %d", len(l), errno)
	}
	if !reflect.DeepEqual(c, was) {
		t.Errorf("Scan has changed the chip")
	}
	return l
}

// tells: what Scan says of these blocks; all others are Spoilt, with the Count other.
func tells(t *testing.T, what string, c *nand.Chip, want map[int]Block, other int) {
	t.Helper()
	for n, b := range scanned(t, c) {
		w, ok := want[n]
		if !ok {
			w = Block{State: Spoilt, Count: other}
		}
		if b != w {
			t.Errorf("%s: block %d: %+v, not %+v", what, n, b, w)
		}
	}
}

// one: what Scan says of the block 5, alone on a chip.
func one(t *testing.T, l ...page) Block {
	t.Helper()
	return scanned(t, made(t, small, map[int][]page{5: l}))[5]
}

func TestStates(t *testing.T) {
	is(t, "states", [4]int{Bad, Free, Spoilt, Mapped}, [4]int{1, 2, 3, 4})
}

// Lebs: Blocks - Reserve - 2, of right geometries alone.
func TestLebs(t *testing.T) {
	for _, x := range []struct{ blocks, pages, page, reserve, want int }{
		{16, 16, 128, 2, 12},
		{16, 16, 128, 0, 14},
		{16, 16, 128, 4, 10},
		{16, 8, 256, 1, 13},
		{17, 64, 64, 3, 12},
		{256, 64, 512, 0, 254},
		{256, 64, 512, 64, 190},
		{256, 64, 512, 65, 0},
		{0, 0, 0, 0, 0},
		{15, 16, 128, 2, 0},
		{257, 16, 128, 2, 0},
		{16, 16, 128, -1, 0},
		{16, 16, 128, 5, 0},
		{16, 15, 128, 2, 0},
		{16, 16, 100, 2, 0},
		{16, 8, 128, 2, 0}, // too few bytes of a logical block
		{16, 128, 128, 2, 0},
		{16, 16, 1024, 2, 0},
		{-16, -16, -128, -2, 0},
		{math.MaxInt, 16, 128, 2, 0},
		{math.MinInt, 16, 128, 2, 0},
		{16, 16, 128, math.MinInt, 0},
		{16, 16, 128, math.MaxInt, 0},
		{math.MinInt, math.MinInt, math.MinInt, math.MaxInt, 0},
	} {
		g := api.Geometry{Blocks: x.blocks, Pages: x.pages, Page: x.page, Reserve: x.reserve}
		if got := Lebs(g); got != x.want {
			t.Errorf("Lebs(%+v): %d, not %d", g, got, x.want)
		}
	}
}

// P701: the errors.
func TestScanErrors(t *testing.T) {
	l, errno := Scan(nil)
	is(t, "Scan of nil", errno, api.EFAULT)
	is(t, "its list", len(l), 0)
	c := made(t, small, map[int][]page{3: {counted(1)}})
	c.Arm([]api.Fault{{At: 1, Kind: api.Cut}})
	c.Erase(0)
	was := c.Clone()
	l, errno = Scan(c)
	is(t, "Scan with the power off", errno, api.ENXIO)
	is(t, "its list", len(l), 0)
	is(t, "the chip is as it was", reflect.DeepEqual(c, was), true)
	c.Power()
	is(t, "Scan with the power on again", scanned(t, c)[3], Block{State: Free, Count: 1})
}

// P701, example 1: a new chip, of the least and of the greatest geometry.
func TestNewChip(t *testing.T) {
	for _, g := range []api.Geometry{
		small,
		{Blocks: 16, Pages: 8, Page: 256},
		{Blocks: 256, Pages: 64, Page: 512, Reserve: 64},
	} {
		c := made(t, g, nil)
		tells(t, "a new chip", c, nil, 0)
		is(t, "Good", Good(scanned(t, c)), g.Blocks)
	}
}

// Example 2.
func TestExample(t *testing.T) {
	four := pages(counted(2), mapping(0, 5, 0))
	c := made(t, small, map[int][]page{4: four, 6: {counted(1), mapping(0, 6, 0)}})
	tells(t, "6 is newer", c, map[int]Block{
		4: {State: Spoilt, Count: 2},
		6: {State: Mapped, Count: 1, Leb: 0, Seq: 6},
	}, 1)
	c = made(t, small, map[int][]page{4: four, 6: {counted(1), mapping(0, 6, 2), text("a")}})
	tells(t, "6 is not whole", c, map[int]Block{
		4: {State: Mapped, Count: 2, Leb: 0, Seq: 5},
		6: {State: Spoilt, Count: 1},
	}, 1)
}

// Free: a Count's page, and nothing behind it was programmed.
func TestFree(t *testing.T) {
	for _, n := range []int{0, 1, 7, 1<<31 - 1} {
		is(t, "a Count alone", one(t, counted(n)), Block{State: Free, Count: n})
		for what, p := range map[string]page{"no byte": text(""), "a byte": text("a"), "a torn page": torn(), "a Count": counted(n)} {
			is(t, "a Count, and behind it "+what, one(t, counted(n), p), Block{State: Spoilt, Count: n})
		}
	}
}

// Spoilt: the first page is no Count's.
func TestFirstPage(t *testing.T) {
	turned := slices.Clone(counted(7).data)
	turned[8] ^= 1
	for what, p := range map[string]page{
		"torn":                            torn(),
		"of no byte":                      text(""),
		"of a byte":                       text("E"),
		"a Mapping's":                     mapping(3, 9, 0),
		"a Count's with one turn":         {data: turned},
		"a Count's with a byte behind it": {data: append(slices.Clone(counted(7).data[:127]), 0)},
	} {
		is(t, "a first page "+what, one(t, p), Block{State: Spoilt})
		is(t, "a Mapping behind a first page "+what, one(t, p, mapping(3, 9, 0)), Block{State: Spoilt})
		is(t, "a Count behind a first page "+what, one(t, p, counted(7), mapping(3, 9, 0)), Block{State: Spoilt})
	}
}

// Spoilt: the second page is no Mapping's; erased ones are TestFree's.
func TestSecondPage(t *testing.T) {
	turned := slices.Clone(mapping(3, 9, 0).data)
	turned[20] = 0
	for what, p := range map[string]page{
		"torn":                      torn(),
		"of no byte":                text(""),
		"of a byte":                 text("M"),
		"a Count's":                 counted(7),
		"a Mapping's with one turn": {data: turned},
	} {
		is(t, "a second page "+what, one(t, counted(7), p), Block{State: Spoilt, Count: 7})
		is(t, "a Mapping behind a second page "+what, one(t, counted(7), p, mapping(3, 9, 0)), Block{State: Spoilt, Count: 7})
	}
}

// Spoilt: an erase that failed, or was cut in the middle.
func TestTornErase(t *testing.T) {
	for _, f := range []api.Fault{{At: 1, Kind: api.Fail}, {At: 1, Kind: api.Cut, Torn: 1}} {
		c := made(t, small, map[int][]page{5: {counted(7), mapping(3, 9, 1), text("a")}, 6: {counted(4)}})
		c.Arm([]api.Fault{f})
		c.Erase(5)
		c.Power()
		tells(t, "a torn erase", c, map[int]Block{6: {State: Free, Count: 4}}, 4)
	}
}

// Bad: whatever stands in it; it takes no part in Counts and copies.
func TestMarked(t *testing.T) {
	c := made(t, small, map[int][]page{
		1: {counted(100)},
		2: {counted(100), mapping(3, 9, 0), text("a")},
		3: {counted(100), mapping(3, 8, 0), text("a"), torn()},
		4: {torn()},
		6: {counted(5), mapping(3, 7, 0), text("a")},
		7: {counted(2)},
	})
	for n := range 5 {
		is(t, "Mark", c.Mark(n), api.OK)
	}
	tells(t, "marked blocks", c, map[int]Block{
		0: {State: Bad}, 1: {State: Bad}, 2: {State: Bad}, 3: {State: Bad}, 4: {State: Bad},
		6: {State: Mapped, Count: 5, Leb: 3, Seq: 7, Used: 1},
		7: {State: Free, Count: 2},
	}, 3)
	l := scanned(t, c)
	is(t, "Find", Find(l, 3), 6)
	is(t, "Least", Least(l), 7)
	is(t, "Good", Good(l), 11)
	for n := range small.Blocks {
		is(t, "Mark", c.Mark(n), api.OK)
	}
	l = scanned(t, c)
	is(t, "all are marked", slices.Equal(l, slices.Repeat([]Block{{State: Bad}}, 16)), true)
	is(t, "Find", Find(l, 3), -1)
	is(t, "Least", Least(l), -1)
	is(t, "Good", Good(l), 0)
}

// Mapped: the Leb must be below Lebs.
func TestLebOfMapping(t *testing.T) {
	for leb := range api.MaxBlocks {
		want := Block{State: Mapped, Count: 7, Leb: leb, Seq: 9}
		if leb >= smallLebs {
			want = Block{State: Spoilt, Count: 7}
		}
		is(t, "a Leb", one(t, counted(7), mapping(leb, 9, 0)), want)
	}
	g := api.Geometry{Blocks: 256, Pages: 16, Page: 128}
	c := made(t, g, map[int][]page{
		0: {counted(7), mapping(253, 9, 0)},
		1: {counted(7), mapping(254, 9, 0)},
		2: {counted(7), mapping(255, 9, 0)},
	})
	tells(t, "the last Leb of all", c, map[int]Block{0: {State: Mapped, Count: 7, Leb: 253, Seq: 9}}, 7)
}

// Mapped: all Pages must be there, of which there are no more than the logical block has.
func TestPagesOfMapping(t *testing.T) {
	for want := range api.MaxPages + 1 {
		for used := range smallRoom + 1 {
			b := Block{State: Mapped, Count: 7, Leb: 3, Seq: 9, Used: used}
			if want > used {
				b = Block{State: Spoilt, Count: 7}
			}
			head := pages(counted(7), mapping(3, 9, want))
			if got := one(t, block(head, times(used, text("a"))...)...); got != b {
				t.Errorf("%d Pages, %d are there: %+v, not %+v", want, used, got, b)
			}
		}
	}
	is(t, "Pages without a byte", one(t, counted(7), mapping(3, 9, 2), text(""), text("")), Block{State: Mapped, Count: 7, Leb: 3, Seq: 9, Used: 2})
}

// Mapped: none of its Pages may be unreadable; those behind them may.
func TestTornPages(t *testing.T) {
	for want := range smallRoom + 1 {
		for gap := range smallRoom {
			b := Block{State: Mapped, Count: 7, Leb: 3, Seq: 9, Used: gap, Closed: true}
			if gap < want {
				b = Block{State: Spoilt, Count: 7}
			}
			body := times(smallRoom, text("a"))
			body[gap] = torn()
			head := pages(counted(7), mapping(3, 9, want))
			for _, size := range []int{gap + 1, smallRoom} {
				if got := one(t, block(head, body[:size]...)...); got != b {
					t.Errorf("%d Pages, %d is torn, of %d: %+v, not %+v", want, gap, size, got, b)
				}
			}
		}
	}
}

// Used, Closed: from no page to all pages, and what stands behind the last readable one.
func TestUsed(t *testing.T) {
	head := pages(counted(7), mapping(3, 9, 0))
	for used := range smallRoom + 1 {
		for _, p := range []page{text("a"), text(""), mapping(4, 10, 0), counted(9)} {
			b := one(t, block(head, times(used, p)...)...)
			is(t, "open", b, Block{State: Mapped, Count: 7, Leb: 3, Seq: 9, Used: used})
		}
		if used == smallRoom {
			break
		}
		want := Block{State: Mapped, Count: 7, Leb: 3, Seq: 9, Used: used, Closed: true}
		body := append(times(used, text("")), torn())
		is(t, "closed", one(t, block(head, body...)...), want)
		if used+1 < smallRoom {
			is(t, "closed, with a page behind it", one(t, block(head, append(body, text("b"))...)...), want)
		}
	}
}

// Used, Closed: a program that was cut: not begun, torn, done.
func TestCut(t *testing.T) {
	for at, want := range []Block{{Used: 1}, {Used: 1, Closed: true}, {Used: 2}} {
		c := made(t, small, map[int][]page{5: {counted(7), mapping(3, 9, 1), text("a")}})
		c.Arm([]api.Fault{{At: 1, Kind: api.Cut, Torn: at}})
		is(t, "Program", c.Program(5, 3, []byte("b")), api.ENXIO)
		c.Power()
		want.State, want.Count, want.Leb, want.Seq = Mapped, 7, 3, 9
		is(t, "a cut", scanned(t, c)[5], want)
	}
}

// P703: of the copies of one Leb the newest that is whole, of those with one Seq the first.
func TestCopies(t *testing.T) {
	type copied struct {
		seq   uint64
		pages int // with one page in each
	}
	for _, x := range []struct {
		blocks []copied
		want   int
	}{
		{[]copied{{5, 0}, {6, 0}}, 1},
		{[]copied{{6, 0}, {5, 0}}, 0},
		{[]copied{{5, 0}, {6, 1}}, 1},
		{[]copied{{5, 0}, {6, 2}}, 0},
		{[]copied{{6, 2}, {5, 0}}, 1},
		{[]copied{{5, 2}, {6, 2}}, -1},
		{[]copied{{5, 0}, {5, 0}}, 0},
		{[]copied{{5, 2}, {5, 0}}, 1},
		{[]copied{{0, 0}, {0, 0}}, 0},
		{[]copied{{0, 0}, {1, 0}}, 1},
		{[]copied{{math.MaxUint64, 0}, {0, 0}}, 0},
		{[]copied{{0, 0}, {math.MaxUint64, 0}}, 1},
		{[]copied{{1<<63 - 1, 0}, {1 << 63, 0}}, 1},
		{[]copied{{1 << 32, 0}, {1, 0}}, 0},
		{[]copied{{5, 0}, {6, 0}, {7, 0}}, 2},
		{[]copied{{5, 0}, {7, 0}, {6, 0}}, 1},
		{[]copied{{7, 0}, {6, 0}, {5, 0}}, 0},
		{[]copied{{6, 0}, {5, 0}, {7, 0}}, 2},
		{[]copied{{5, 0}, {6, 0}, {7, 2}}, 1},
		{[]copied{{7, 2}, {5, 0}, {6, 2}}, 1},
		{[]copied{{5, 0}, {7, 0}, {7, 0}}, 1},
		{[]copied{{7, 0}, {5, 0}, {7, 0}}, 0},
		{[]copied{{7, 0}, {7, 0}, {7, 0}}, 0},
		{[]copied{{7, 2}, {7, 0}, {7, 0}}, 1},
		{[]copied{{7, 2}, {7, 2}, {7, 2}}, -1},
	} {
		blocks, want := map[int][]page{}, map[int]Block{}
		for i, b := range x.blocks {
			n := 4 * i
			blocks[n] = pages(counted(7), mapping(3, b.seq, b.pages), text("a"))
			if i == x.want {
				want[n] = Block{State: Mapped, Count: 7, Leb: 3, Seq: b.seq, Used: 1}
			}
		}
		c := made(t, small, blocks)
		tells(t, "copies", c, want, 7)
		found := -1
		if x.want >= 0 {
			found = 4 * x.want
		}
		is(t, "Find", Find(scanned(t, c), 3), found)
	}
}

// P703: copies of one Leb do not spoil those of another one; older ones that are spoilt keep their own Counts alone.
func TestCopiesOfSeveral(t *testing.T) {
	c := made(t, small, map[int][]page{
		0:  {counted(1), mapping(0, 9, 0), text("a"), torn()},
		1:  {counted(2), mapping(1, 3, 0)},
		2:  {counted(3), mapping(0, 10, 0), text("b")},
		5:  {counted(4), mapping(1, 2, 0), text("c")},
		9:  {counted(5), mapping(11, 1, 1), text("d"), torn()},
		15: {counted(6), mapping(12, 99, 0)},
	})
	tells(t, "several", c, map[int]Block{
		0:  {State: Spoilt, Count: 1},
		1:  {State: Mapped, Count: 2, Leb: 1, Seq: 3},
		2:  {State: Mapped, Count: 3, Leb: 0, Seq: 10, Used: 1},
		5:  {State: Spoilt, Count: 4},
		9:  {State: Mapped, Count: 5, Leb: 11, Seq: 1, Used: 1, Closed: true},
		15: {State: Spoilt, Count: 6},
	}, 3)
}

// Counts: the mean of those that are told, rounded down.
func TestCounts(t *testing.T) {
	most := 1<<31 - 1
	for _, x := range []struct {
		counts []int
		mean   int
	}{
		{nil, 0},
		{[]int{0}, 0},
		{[]int{7}, 7},
		{[]int{0, 1}, 0},
		{[]int{1, 2}, 1},
		{[]int{1, 2, 2}, 1},
		{[]int{1, 2, 3}, 2},
		{[]int{0, 0, 0, 3}, 0},
		{[]int{0, 0, 0, 4}, 1},
		{[]int{most, most}, most},
		{[]int{most, most - 1}, most - 1},
		{slices.Repeat([]int{most}, 15), most},
	} {
		blocks, want := map[int][]page{}, map[int]Block{}
		for n, count := range x.counts {
			blocks[n] = pages(counted(count))
			want[n] = Block{State: Free, Count: count}
		}
		tells(t, "Counts", made(t, small, blocks), want, x.mean)
	}
}

// Counts: those of all states but Bad are told; a block that tells its own keeps it, all may.
func TestCountsOfStates(t *testing.T) {
	c := made(t, small, map[int][]page{
		0: {counted(10)},
		1: {counted(20), mapping(3, 9, 0)},
		2: {counted(30), torn()},
		3: {counted(41), mapping(3, 8, 0)},
		4: {torn(), counted(5000)},
		5: {mapping(3, 10, 0), counted(5000)},
		6: {counted(5000)},
	})
	c.Mark(6)
	tells(t, "Counts of all states", c, map[int]Block{
		0: {State: Free, Count: 10},
		1: {State: Mapped, Count: 20, Leb: 3, Seq: 9},
		2: {State: Spoilt, Count: 30},
		3: {State: Spoilt, Count: 41},
		6: {State: Bad},
	}, 25)
	c, want := made(t, small, nil), map[int]Block{}
	for n := range small.Blocks {
		lay(t, c, n, counted(n*n))
		want[n] = Block{State: Free, Count: n * n}
	}
	tells(t, "all are told", c, want, -1)
}

// The chip's own count of erases is none that is told.
func TestErases(t *testing.T) {
	c := made(t, small, nil)
	for range 5 {
		c.Erase(3)
	}
	lay(t, c, 3, counted(2))
	tells(t, "erases", c, map[int]Block{3: {State: Free, Count: 2}}, 2)
}

// Rules 4 and 5: what is handed out is new memory, and the same for the same chip.
func TestNewMemory(t *testing.T) {
	c := made(t, small, map[int][]page{5: {counted(7), mapping(3, 9, 0)}})
	l := scanned(t, c)
	was := slices.Clone(l)
	clear(l[:cap(l)])
	is(t, "the same again", slices.Equal(scanned(t, c), was), true)
}
