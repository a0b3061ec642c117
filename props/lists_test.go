package props

import (
	"fmt"
	"testing"

	"pumice/api"
)

// F14.2

// shelf: a book with blocks of all kinds, of which 0, 5 and 11 are free.
func shelf(t *testing.T) *pair {
	t.Helper()
	p := paired(t, 12, 100)
	for leb, x := range []Block{
		1:  {1, 10, 10, false},
		2:  {2, 60, 40, true},
		3:  {2, 60, 39, true},
		4:  {2, 90, 10, false},
		6:  {2, 30, 10, true},
		7:  {2, 70, 70, true},
		8:  {3, 100, 0, true},
		9:  {2, 21, 0, true},
		10: {2, 0, 0, true},
	} {
		if x.Use != 0 {
			p.lay(t, leb, x)
		}
	}
	return p
}

func TestBlock(t *testing.T) {
	p := shelf(t)
	for leb, want := range map[int]Block{0: {}, 1: {1, 10, 10, false}, 3: {2, 60, 39, true}, 8: {3, 100, 0, true}, 10: {2, 0, 0, true}, 11: {}} {
		x, errno := p.b.Block(leb)
		is(t, "Block's errno", errno, api.OK)
		is(t, fmt.Sprint("Block of ", leb), x, want)
	}
	for _, leb := range []int{-1, 12, most, least} {
		x, errno := p.b.Block(leb)
		is(t, "Block's errno", errno, api.EINVAL)
		is(t, "Block", x, Block{})
	}
}

func TestFrees(t *testing.T) {
	p := shelf(t)
	same(t, "Frees", p.b.Frees(), []int{0, 5, 11})
	p.take(t, 5, 1, api.OK)
	same(t, "Frees", p.b.Frees(), []int{0, 11})
	p.release(t, 8, api.OK)
	same(t, "Frees", p.b.Frees(), []int{0, 8, 11})
}

func TestLeast(t *testing.T) {
	p := shelf(t)
	for _, want := range []int{0, 5, 11} {
		leb, ok := p.b.Least()
		is(t, "Least", leb, want)
		is(t, "Least's ok", ok, true)
		p.take(t, want, 1, api.OK)
	}
	leb, ok := p.b.Least()
	is(t, "Least", leb, 0)
	is(t, "Least's ok", ok, false)
	p.release(t, 10, api.OK)
	leb, ok = p.b.Least()
	is(t, "Least", leb, 10)
	is(t, "Least's ok", ok, true)
}

func TestNoneFree(t *testing.T) {
	for _, n := range []int{1, 3, api.MaxBlocks} {
		p := paired(t, n, 10)
		for leb := range n {
			is(t, "Take", p.b.Take(leb, 1+leb%3), api.OK)
			is(t, "Take in the model", p.m.take(leb, 1+leb%3), api.OK)
		}
		p.m.held(t, "all taken", p.b)
		is(t, "Frees", len(p.b.Frees()), 0)
		leb, ok := p.b.Least()
		is(t, "Least", leb, 0)
		is(t, "Least's ok", ok, false)
		totals(t, "all taken", p.b, 0, 0, 0, 0)
		p.take(t, n-1, 1, api.EBUSY)
	}
}

func TestOf(t *testing.T) {
	p := shelf(t)
	same(t, "Of 1", p.b.Of(1), []int{1})
	same(t, "Of 2", p.b.Of(2), []int{2, 3, 4, 6, 7, 9, 10})
	same(t, "Of 3", p.b.Of(3), []int{8})
	// A free block is taken for nothing, not for the use 0.
	for _, use := range []int{0, 4, -1, 1<<32 + 2, most, least} {
		same(t, fmt.Sprint("Of ", use), p.b.Of(use), nil)
		same(t, fmt.Sprint("Victims of ", use), p.b.Victims(use), nil)
	}
}

// TestVictims: P1403. 3 and 9 have as many dirty bytes; 4 is open, 7 and 10 have none.
func TestVictims(t *testing.T) {
	p := shelf(t)
	same(t, "Victims of 1", p.b.Victims(1), nil)
	same(t, "Victims of 2", p.b.Victims(2), []int{3, 9, 2, 6})
	same(t, "Victims of 3", p.b.Victims(3), []int{8})
	p.shut(t, 4, api.OK)
	same(t, "Victims of 2", p.b.Victims(2), []int{4, 3, 9, 2, 6})
	p.kill(t, 6, 1, api.OK)
	same(t, "Victims of 2", p.b.Victims(2), []int{4, 3, 6, 9, 2})
	p.release(t, 9, api.OK)
	same(t, "Victims of 2", p.b.Victims(2), []int{4, 3, 6, 2})
}

// TestVictimsAlike: many blocks with as many dirty bytes stand by their numbers, wherever the others stand.
func TestVictimsAlike(t *testing.T) {
	p := paired(t, api.MaxBlocks, 1000)
	want := make([]int, 0, api.MaxBlocks)
	for leb := range api.MaxBlocks {
		dirty := 1 + (leb*7)%5
		for _, errno := range []api.Errno{p.b.Take(leb, 3), p.b.Use(leb, 10+leb), p.b.Kill(leb, dirty), p.b.Close(leb)} {
			is(t, "errno", errno, api.OK)
		}
	}
	for dirty := 5; dirty > 0; dirty-- {
		for leb := range api.MaxBlocks {
			if 1+(leb*7)%5 == dirty {
				want = append(want, leb)
			}
		}
	}
	same(t, "Victims", p.b.Victims(3), want)
}

// TestTotals: P1401, with the greatest sums that there are.
func TestTotals(t *testing.T) {
	p := shelf(t)
	totals(t, "the shelf", p.b, 3, 441, 179, 262)
	const size = 1 << 24
	b := made(t, api.MaxBlocks, size)
	totals(t, "empty", b, api.MaxBlocks, 0, 0, 0)
	for leb := range api.MaxBlocks {
		for _, errno := range []api.Errno{b.Take(leb, 2), b.Use(leb, size), b.Kill(leb, leb)} {
			is(t, "errno", errno, api.OK)
		}
	}
	dirty := api.MaxBlocks * (api.MaxBlocks - 1) / 2
	totals(t, "full", b, 0, api.MaxBlocks*size, api.MaxBlocks*size-dirty, dirty)
}

// scribble: writes over all of a list, and over its spare room.
func scribble(l []int) {
	l = l[:cap(l)]
	for i := range l {
		l[i] = -7
	}
}

// TestOwnLists: what was answered can be changed, and the book is as it was.
func TestOwnLists(t *testing.T) {
	p := shelf(t)
	for range 2 {
		scribble(p.b.Frees())
		for use := range 5 {
			scribble(p.b.Of(use))
			scribble(p.b.Victims(use))
		}
		x, _ := p.b.Block(2)
		x.Use, x.Live, x.Closed = 3, 0, false
		p.m.held(t, "scribbled", p.b)
	}
	frees, victims := p.b.Frees(), p.b.Victims(2)
	p.take(t, 0, 2, api.OK)
	p.lay(t, 5, Block{2, 100, 0, true})
	same(t, "older Frees", frees, []int{0, 5, 11})
	same(t, "older Victims", victims, []int{3, 9, 2, 6})
}
