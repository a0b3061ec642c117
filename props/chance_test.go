package props

import (
	"fmt"
	"math/rand"
	"testing"

	"pumice/api"
)

// player: drives a book by chance, and holds it against the model.
type player struct {
	*pair
	r    *rand.Rand
	told map[api.Errno]int // how often each errno came
}

// leb: mostly a block that there is.
func (p *player) leb() int {
	switch p.r.Intn(30) {
	case 0:
		return -1 - p.r.Intn(3)
	case 1:
		return p.m.n + p.r.Intn(3)
	case 2:
		return []int{most, least}[p.r.Intn(2)]
	}
	return p.r.Intn(p.m.n)
}

// bytes: around what is asked for, or any number of the block's size.
func (p *player) bytes(edge int) int {
	switch p.r.Intn(12) {
	case 0:
		return []int{most, least, -1}[p.r.Intn(3)]
	case 1, 2:
		return edge
	case 3:
		return edge + 1
	case 4:
		return 0
	case 5:
		return p.r.Intn(p.m.size + 2)
	}
	return p.r.Intn(edge/2 + 1)
}

// step: one call, the same one to both.
func (p *player) step() (what string, got, want api.Errno) {
	leb := p.leb()
	x := p.m.taken[leb]
	switch p.r.Intn(12) {
	case 0, 1:
		use := 1 + p.r.Intn(3)
		if p.r.Intn(10) == 0 {
			use = p.r.Intn(7) - 1
		}
		return fmt.Sprintf("Take(%d, %d)", leb, use), p.b.Take(leb, use), p.m.take(leb, use)
	case 2, 3, 4, 5:
		n := p.bytes(p.m.size - x.live - x.dirty)
		return fmt.Sprintf("Use(%d, %d)", leb, n), p.b.Use(leb, n), p.m.useMore(leb, n)
	case 6, 7, 8:
		n := p.bytes(x.live)
		return fmt.Sprintf("Kill(%d, %d)", leb, n), p.b.Kill(leb, n), p.m.kill(leb, n)
	case 9:
		return fmt.Sprintf("Close(%d)", leb), p.b.Close(leb), p.m.shut(leb)
	}
	return fmt.Sprintf("Free(%d)", leb), p.b.Free(leb), p.m.release(leb)
}

// sums: P1401 and P1403, asked of the book alone.
func (p *player) sums(t *testing.T, what string) {
	t.Helper()
	free, used, live := 0, 0, 0
	for leb := range p.m.n {
		x, _ := p.b.Block(leb)
		if x.Live < 0 || x.Live > x.Used || x.Used > p.m.size {
			t.Errorf("%s: %d is %+v", what, leb, x)
		}
		if x.Use == 0 {
			free++
			is(t, what+": a free block", x, Block{})
		}
		used, live = used+x.Used, live+x.Live
	}
	totals(t, what, p.b, free, used, live, used-live)
	for use := 1; use <= 3; use++ {
		p.inOrder(t, what, use)
	}
}

func (p *player) inOrder(t *testing.T, what string, use int) {
	t.Helper()
	dirty, before := most, -1
	for _, leb := range p.b.Victims(use) {
		x, _ := p.b.Block(leb)
		d := x.Used - x.Live
		if !x.Closed || x.Use != use || d <= 0 || d > dirty || d == dirty && leb < before {
			t.Errorf("%s: the victim %d is %+v", what, leb, x)
		}
		dirty, before = d, leb
	}
}

func (p *player) play(t *testing.T, steps int) {
	t.Helper()
	for i := range steps {
		call, got, want := p.step()
		what := fmt.Sprintf("%d blocks of %d, step %d, %s", p.m.n, p.m.size, i, call)
		is(t, what, got, want)
		p.m.held(t, what, p.b)
		p.sums(t, what)
		if p.r.Intn(8) == 0 {
			p.b = parsed(t, p.b.Text())
			p.m.held(t, what+", parsed", p.b)
		}
		if t.Failed() {
			t.FailNow()
		}
		p.told[got]++
	}
}

// TestByChance: P1401 to P1404, some thousand calls on each book.
func TestByChance(t *testing.T) {
	told := map[api.Errno]int{}
	for i, c := range []struct{ n, size, steps int }{{1, 1, 1000}, {1, 50, 2000}, {4, 100, 6000}, {12, 20, 6000}, {20, 1 << 24, 6000}, {api.MaxBlocks, 30, 1500}} {
		p := &player{pair: paired(t, c.n, c.size), r: chance(i), told: told}
		p.play(t, c.steps)
	}
	for _, errno := range []api.Errno{api.OK, api.EINVAL, api.ENOENT, api.EBUSY, api.ENOSPC} {
		if told[errno] < 300 {
			t.Errorf("errno %d came only %d times", errno, told[errno])
		}
	}
}
