package props

import (
	"fmt"
	"math"
	"testing"

	"pumice/api"
)

const (
	most  = math.MaxInt
	least = math.MinInt
)

// F14.1

func TestNew(t *testing.T) {
	const greatest = 1 << 24
	for _, c := range []struct {
		n, size int
		want    api.Errno
	}{
		{1, 1, api.OK},
		{4, 100, api.OK},
		{2, greatest - 1, api.OK},
		{1, greatest, api.OK},
		{api.MaxBlocks - 1, 7, api.OK},
		{api.MaxBlocks, 1, api.OK},
		{api.MaxBlocks, greatest, api.OK},
		{0, 1, api.EINVAL},
		{1, 0, api.EINVAL},
		{0, 0, api.EINVAL},
		{api.MaxBlocks + 1, 1, api.EINVAL},
		{1, greatest + 1, api.EINVAL},
		{api.MaxBlocks + 1, greatest + 1, api.EINVAL},
		{-1, 1, api.EINVAL},
		{1, -1, api.EINVAL},
		{-1, -1, api.EINVAL},
		{most, 1, api.EINVAL},
		{1, most, api.EINVAL},
		{most, most, api.EINVAL},
		{least, 1, api.EINVAL},
		{1, least, api.EINVAL},
		{least, least, api.EINVAL},
		{1 << 32, 1, api.EINVAL},
		{1<<32 + 1, 1, api.EINVAL},
		{1, 1<<32 + 1, api.EINVAL},
	} {
		what := fmt.Sprintf("New(%d, %d)", c.n, c.size)
		b, errno := New(c.n, c.size)
		is(t, what, errno, c.want)
		is(t, what+" is nil", b == nil, c.want != api.OK)
		if errno == api.OK && c.want == api.OK {
			modelOf(c.n, c.size).held(t, what, b)
		}
	}
}

// TestExample: that of the chapter.
func TestExample(t *testing.T) {
	b := made(t, 4, 100)
	is(t, "Take", b.Take(1, 2), api.OK)
	is(t, "Use", b.Use(1, 60), api.OK)
	is(t, "Kill", b.Kill(1, 20), api.OK)
	is(t, "Close", b.Close(1), api.OK)
	x, errno := b.Block(1)
	is(t, "Block's errno", errno, api.OK)
	is(t, "Block", x, Block{2, 60, 40, true})
	same(t, "Victims", b.Victims(2), []int{1})
	is(t, "Use", b.Use(1, 1), api.EBUSY)
	is(t, "Free", b.Free(1), api.EBUSY)
	totals(t, "the example", b, 3, 60, 40, 20)
	is(t, "Text", b.Text(), "4 100\n1 2 60 40 closed\n")
}

func TestNil(t *testing.T) {
	var b *Book
	for _, n := range []int{-1, 0, 1, 2, 3, 4, most, least} {
		is(t, "Take", b.Take(n, n), api.EFAULT)
		is(t, "Use", b.Use(n, n), api.EFAULT)
		is(t, "Kill", b.Kill(n, n), api.EFAULT)
		is(t, "Close", b.Close(n), api.EFAULT)
		is(t, "Free", b.Free(n), api.EFAULT)
		x, errno := b.Block(n)
		is(t, "Block's errno", errno, api.EFAULT)
		is(t, "Block", x, Block{})
		is(t, "Of", len(b.Of(n)), 0)
		is(t, "Victims", len(b.Victims(n)), 0)
	}
	is(t, "Frees", len(b.Frees()), 0)
	leb, ok := b.Least()
	is(t, "Least", leb, 0)
	is(t, "Least's ok", ok, false)
	totals(t, "nil", b, 0, 0, 0, 0)
	is(t, "Text", b.Text(), "")
}

// TestLebs: each call of the first and the last block, and of those that there are not.
func TestLebs(t *testing.T) {
	for _, n := range []int{1, 2, 5, api.MaxBlocks} {
		p := paired(t, n, 10)
		for _, leb := range []int{0, n - 1} {
			p.release(t, leb, api.OK)
			p.take(t, leb, 1, api.OK)
			p.use(t, leb, 3, api.OK)
			p.kill(t, leb, 3, api.OK)
			p.shut(t, leb, api.OK)
		}
		for _, leb := range []int{-1, -n, n, n + 1, 1 << 32, -1 << 32, most, least} {
			p.take(t, leb, 1, api.EINVAL)
			p.use(t, leb, 0, api.EINVAL)
			p.kill(t, leb, 0, api.EINVAL)
			p.shut(t, leb, api.EINVAL)
			p.release(t, leb, api.EINVAL)
			x, errno := p.b.Block(leb)
			is(t, "Block's errno", errno, api.EINVAL)
			is(t, "Block", x, Block{})
		}
	}
}

func TestTake(t *testing.T) {
	p := paired(t, 4, 100)
	for _, use := range []int{0, 4, -1, -2, 1<<32 + 1, most, least} {
		p.take(t, 0, use, api.EINVAL)
	}
	for use := 1; use <= 3; use++ {
		p.take(t, use-1, use, api.OK)
	}
	for use := 1; use <= 3; use++ {
		p.take(t, 0, use, api.EBUSY)
	}
	// No such use comes ahead of the block's being taken.
	for _, use := range []int{0, 4, -1, most, least} {
		p.take(t, 0, use, api.EINVAL)
	}
	p.shut(t, 1, api.OK)
	p.take(t, 1, 2, api.EBUSY)
	p.use(t, 2, 100, api.OK)
	p.take(t, 2, 3, api.EBUSY)
}

// TestTakeAnew: a block that was free again has nothing of what it was.
func TestTakeAnew(t *testing.T) {
	p := paired(t, 2, 100)
	p.lay(t, 1, Block{2, 70, 0, true})
	p.release(t, 1, api.OK)
	p.take(t, 1, 3, api.OK)
	p.use(t, 1, 100, api.OK)
}

func TestUse(t *testing.T) {
	p := paired(t, 3, 100)
	p.use(t, 0, 0, api.ENOENT)
	p.use(t, 0, 1, api.ENOENT)
	p.take(t, 0, 2, api.OK)
	p.use(t, 0, 0, api.OK)
	p.use(t, 0, 101, api.ENOSPC)
	p.use(t, 0, 60, api.OK)
	p.use(t, 0, 41, api.ENOSPC)
	p.use(t, 0, most, api.ENOSPC)
	p.use(t, 0, -1, api.EINVAL)
	p.use(t, 0, -60, api.EINVAL)
	p.use(t, 0, least, api.EINVAL)
	p.use(t, 0, 40, api.OK)
	p.use(t, 0, 0, api.OK)
	p.use(t, 0, 1, api.ENOSPC)
	p.use(t, 0, most, api.ENOSPC)
	p.take(t, 1, 3, api.OK)
	p.use(t, 1, 100, api.OK)
}

// TestUseBehindKill: dirty bytes are not left.
func TestUseBehindKill(t *testing.T) {
	p := paired(t, 1, 10)
	p.take(t, 0, 1, api.OK)
	p.use(t, 0, 8, api.OK)
	p.kill(t, 0, 8, api.OK)
	p.use(t, 0, 3, api.ENOSPC)
	p.use(t, 0, 2, api.OK)
	p.use(t, 0, 1, api.ENOSPC)
}

// TestUseErrors: each error ahead of those that the chapter names behind it.
func TestUseErrors(t *testing.T) {
	p := paired(t, 3, 100)
	p.lay(t, 1, Block{2, 60, 60, true})
	p.lay(t, 2, Block{2, 100, 100, false})
	p.use(t, 3, most, api.EINVAL)
	p.use(t, 3, -1, api.EINVAL)
	p.use(t, 0, -1, api.EINVAL)
	p.use(t, 0, least, api.EINVAL)
	p.use(t, 1, -1, api.EINVAL)
	p.use(t, 1, least, api.EINVAL)
	p.use(t, 2, -1, api.EINVAL)
	p.use(t, 0, 101, api.ENOENT)
	p.use(t, 0, most, api.ENOENT)
	p.use(t, 1, 0, api.EBUSY)
	p.use(t, 1, 40, api.EBUSY)
	p.use(t, 1, 41, api.EBUSY)
	p.use(t, 1, most, api.EBUSY)
	p.use(t, 2, 1, api.ENOSPC)
}

// TestUseSizes: the edges of what is left, of the least and the greatest blocks.
func TestUseSizes(t *testing.T) {
	for _, size := range []int{1, 2, 1<<24 - 1, 1 << 24} {
		p := paired(t, 1, size)
		p.take(t, 0, 3, api.OK)
		p.use(t, 0, size+1, api.ENOSPC)
		p.use(t, 0, size-1, api.OK)
		p.use(t, 0, 2, api.ENOSPC)
		p.use(t, 0, 1, api.OK)
		p.use(t, 0, 1, api.ENOSPC)
		p.kill(t, 0, size, api.OK)
		p.use(t, 0, 1, api.ENOSPC)
	}
}

func TestKill(t *testing.T) {
	p := paired(t, 2, 100)
	p.kill(t, 0, 0, api.ENOENT)
	p.kill(t, 0, 1, api.ENOENT)
	p.kill(t, 0, most, api.ENOENT)
	p.kill(t, 0, -1, api.EINVAL)
	p.take(t, 0, 2, api.OK)
	p.kill(t, 0, 0, api.OK)
	p.kill(t, 0, 1, api.ENOSPC)
	p.use(t, 0, 60, api.OK)
	p.kill(t, 0, 0, api.OK)
	p.kill(t, 0, 61, api.ENOSPC)
	p.kill(t, 0, 20, api.OK)
	p.kill(t, 0, 41, api.ENOSPC)
	p.kill(t, 0, 60, api.ENOSPC)
	p.kill(t, 0, most, api.ENOSPC)
	p.kill(t, 0, -1, api.EINVAL)
	p.kill(t, 0, -20, api.EINVAL)
	p.kill(t, 0, least, api.EINVAL)
	p.kill(t, 0, 40, api.OK)
	p.kill(t, 0, 0, api.OK)
	p.kill(t, 0, 1, api.ENOSPC)
}

func TestKillClosed(t *testing.T) {
	p := paired(t, 1, 100)
	p.lay(t, 0, Block{3, 50, 50, true})
	p.kill(t, 0, 51, api.ENOSPC)
	p.kill(t, 0, -1, api.EINVAL)
	p.kill(t, 0, 0, api.OK)
	p.kill(t, 0, 1, api.OK)
	p.kill(t, 0, 49, api.OK)
	p.kill(t, 0, 1, api.ENOSPC)
}

func TestClose(t *testing.T) {
	p := paired(t, 3, 100)
	p.shut(t, 0, api.ENOENT)
	p.take(t, 0, 1, api.OK)
	p.shut(t, 0, api.OK)
	p.shut(t, 0, api.OK)
	p.lay(t, 1, Block{2, 100, 30, false})
	p.shut(t, 1, api.OK)
	p.shut(t, 1, api.OK)
	p.kill(t, 1, 30, api.OK)
	p.release(t, 1, api.OK)
	p.shut(t, 1, api.ENOENT)
	p.take(t, 1, 2, api.OK)
	p.use(t, 1, 1, api.OK)
}

func TestFree(t *testing.T) {
	p := paired(t, 4, 100)
	p.release(t, 0, api.OK)
	p.release(t, 0, api.OK)
	p.take(t, 0, 1, api.OK)
	p.release(t, 0, api.OK)
	p.lay(t, 1, Block{2, 60, 1, false})
	p.release(t, 1, api.EBUSY)
	p.kill(t, 1, 1, api.OK)
	p.release(t, 1, api.OK)
	p.lay(t, 2, Block{3, 100, 100, true})
	p.release(t, 2, api.EBUSY)
	p.kill(t, 2, 99, api.OK)
	p.release(t, 2, api.EBUSY)
	p.kill(t, 2, 1, api.OK)
	p.release(t, 2, api.OK)
	p.take(t, 3, 3, api.OK)
	p.shut(t, 3, api.OK)
	p.release(t, 3, api.OK)
	p.release(t, 3, api.OK)
}

// TestTwoBooks: what is done to one is not seen in the other.
func TestTwoBooks(t *testing.T) {
	p, q := paired(t, 3, 10), paired(t, 3, 10)
	p.lay(t, 1, Block{1, 5, 2, true})
	q.m.held(t, "the other one", q.b)
	q.lay(t, 1, Block{2, 9, 9, false})
	p.m.held(t, "the one", p.b)
	twin := parsed(t, p.b.Text())
	is(t, "Kill", twin.Kill(1, 2), api.OK)
	is(t, "Take", twin.Take(0, 1), api.OK)
	p.m.held(t, "the one with a twin", p.b)
}
