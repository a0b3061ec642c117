package wbuf

import (
	"fmt"
	"math"
	"math/rand"
	"testing"

	"pumice/api"
	"pumice/bits"
)

func TestFits(t *testing.T) {
	const most = 1 << 30
	big := bits.MaxFrame
	for _, c := range []struct {
		sizes             []int
		from, page, pages int
		want              bool
	}{
		{[]int{50}, 0, 64, 1, true},
		{[]int{50, 3}, 0, 64, 1, false},
		{[]int{50, 2}, 0, 64, 1, true},
		{[]int{50, 1}, 0, 64, 1, true},
		// no sizes
		{nil, 0, 64, 1, true},
		{[]int{}, 64, 64, 1, true},
		{nil, 63, 64, 1, true},
		{nil, 65, 64, 1, false},
		{nil, -1, 64, 1, false},
		{nil, math.MinInt, 64, 1, false},
		{nil, math.MaxInt, 64, 1, false},
		// sizes that no frame has
		{[]int{0}, 0, 64, 100, false},
		{[]int{-1}, 0, 64, 100, false},
		{[]int{math.MinInt}, 0, 64, 100, false},
		{[]int{math.MaxInt}, 0, 64, 100, false},
		{[]int{big}, 0, 64, 100, true},
		{[]int{big + 1}, 0, 64, 100, false},
		{[]int{1, 0}, 0, 64, 100, false},
		{[]int{1, big + 1, 1}, 0, 64, 100, false},
		{[]int{big, 1}, 0, 512, 2, false},
		{[]int{big}, 0, 515, 2, true},
		{[]int{big}, 1, 515, 2, false},
		// one size of one byte
		{[]int{1}, 0, 7, 1, true},
		{[]int{1}, 0, 6, 1, false},
		{[]int{1}, 57, 64, 1, true},
		{[]int{1}, 58, 64, 1, false},
		{[]int{1}, 64, 64, 1, false},
		{[]int{1}, -1, 64, 1, false},
		// from a page's last byte
		{[]int{58}, 63, 64, 2, true},
		{[]int{59}, 63, 64, 2, false},
		{[]int{58}, 64, 64, 2, true},
		{[]int{58}, 62, 64, 2, true},
		{[]int{60}, 62, 64, 2, true},
		{[]int{61}, 62, 64, 2, false},
		{[]int{1}, 127, 64, 2, false},
		// an end on a page's last byte
		{[]int{57, 58}, 0, 64, 2, true},
		{[]int{57, 59}, 0, 64, 2, false},
		{[]int{56, 60}, 0, 64, 2, true},
		{[]int{58, 58}, 0, 64, 2, true},
		{[]int{57, 57}, 0, 64, 2, true},
		{[]int{57, 57, 1}, 0, 64, 2, false},
		// pages
		{nil, 0, 1, 1, false},
		{nil, 0, 0, 1, false},
		{nil, 0, -1, 1, false},
		{nil, 0, -64, -1, false},
		{nil, 0, math.MinInt, 1, false},
		{nil, 0, 1, 100, false},
		{nil, 0, 2, 1, true},
		{nil, 2, 2, 1, true},
		{nil, 3, 2, 1, false},
		{[]int{1}, 0, 2, 4, true},
		{[]int{1}, 0, 2, 3, false},
		{[]int{1, 1}, 0, 2, 8, true},
		{[]int{1, 1}, 0, 2, 7, false},
		{[]int{2, 2}, 0, 2, 8, true},
		{[]int{1}, 1, 2, 5, true},
		{[]int{1}, 1, 2, 4, false},
		{nil, 0, 64, 0, false},
		{nil, 0, 64, -1, false},
		{nil, 0, 64, math.MinInt, false},
		// the greatest product
		{nil, most, 2, most / 2, true},
		{nil, most + 1, 2, most / 2, false},
		{nil, 0, 2, most/2 + 1, false},
		{nil, 0, most, 1, true},
		{nil, 0, most + 1, 1, false},
		{nil, 0, most, 2, false},
		{nil, 0, 3, most / 3, true},
		{nil, 0, 3, most/3 + 1, false},
		{[]int{big}, most - 6 - big, 1 << 15, 1 << 15, true},
		{[]int{big}, most - 6 - big + 1, 1 << 15, 1 << 15, false},
		// products that wrap round
		{nil, 0, math.MaxInt, math.MaxInt, false},
		{nil, 0, math.MaxInt, 2, false},
		{nil, 0, 2, math.MaxInt, false},
		{nil, 0, 1 << 32, 1 << 32, false},
		{nil, 0, 1 << 62, 4, false},
		{nil, 0, math.MinInt, math.MinInt, false},
	} {
		is(t, fmt.Sprintf("Fits(%v, %d, %d, %d)", c.sizes, c.from, c.page, c.pages), Fits(c.sizes, c.from, c.page, c.pages), c.want)
	}
}

// TestFitsManySizes: as many as there is room for, and one more.
func TestFitsManySizes(t *testing.T) {
	sizes := make([]int, 1<<16)
	for i := range sizes {
		sizes[i] = 2
	}
	is(t, "just", Fits(sizes, 0, 64, 1<<13), true)
	is(t, "one more", Fits(append(sizes, 1), 0, 64, 1<<13), false)
	is(t, "sizes", sizes[0], 2)
}

// TestFitsIsWhatAppendDoes: from each end that a log may have, sizes by chance.
func TestFitsIsWhatAppendDoes(t *testing.T) {
	for _, g := range []api.Geometry{small, {Blocks: 16, Pages: 8, Page: 256}} {
		m := formatted(t, g)
		r := rand.New(rand.NewSource(3))
		fitted := 0
		for round := range 600 {
			is(t, "Unmap", m.Unmap(1), api.OK)
			l := opened(t, m, 1)
			for range r.Intn(4) {
				appendTo(l, 1+r.Intn(500))
			}
			if r.Intn(3) == 0 {
				l.Sync()
			}
			sizes := sizesFor(r, l)
			from := l.End()
			want := true
			for _, size := range sizes {
				want = want && appendTo(l, size) == api.OK
			}
			what := fmt.Sprintf("page %d, round %d: Fits(%v, %d)", g.Page, round, sizes, from)
			is(t, what, Fits(sizes, from, m.Page(), m.Pages()), want)
			if from > 0 && from%m.Page() == 0 {
				is(t, what+" from the last byte", Fits(sizes, from-1, m.Page(), m.Pages()), want)
			}
			fitted += b2n(want)
		}
		if fitted < 100 || fitted > 500 {
			t.Errorf("%d of 600 lists fit: that tells little", fitted)
		}
	}
}

// sizesFor: some, often such that the last one just fills a log, or is a byte too long.
func sizesFor(r *rand.Rand, l *Log) []int {
	left := l.m.Pages()*l.m.Page() - l.End()
	var sizes []int
	for range r.Intn(5) {
		size := 1 + r.Intn(1+r.Intn(300))
		sizes = append(sizes, size)
		left -= size + 6
	}
	for left > 6+bits.MaxFrame {
		size := 1 + r.Intn(bits.MaxFrame)
		sizes = append(sizes, size)
		left -= size + 6
	}
	if size := left - 6 + r.Intn(5) - 2; size > 0 && r.Intn(4) > 0 {
		sizes = append(sizes, size)
	}
	return sizes
}
