package cache

import (
	"fmt"
	"math"
	"testing"

	"pumice/api"
	"pumice/store"
)

// TestFlush: P1903: the first group that waits goes to the store, whole, the others wait on.
func TestFlush(t *testing.T) {
	x := empty(t)
	groups := [][]api.Node{
		group(put("a", "1"), put("b", "2")), group(gone("a"), put("c", "3")), group(put("a", "4")), group(gone("b"), gone("c")), group(put("b", "5")), group(gone("nothing")),
	}
	puts(t, x, groups...)
	at, end := model{}, model{"a": "4", "b": "5"}
	end.held(t, "waiting", x)
	for i, g := range groups {
		what := fmt.Sprint("Flush ", i)
		is(t, what+": Waiting", x.Waiting(), len(groups)-i)
		idle := x.Cost()
		flushes(t, x, 1)
		at = at.with(g)
		ranges(t, what, x.Store(), "", "", everything, at.nodes("", "", everything))
		is(t, what+": the store's Cost", x.Store().Cost(), at.cost())
		is(t, what+": Cost", x.Cost(), idle)
		end.held(t, what, x)
	}
	for range 3 {
		more, errno := x.Flush()
		is(t, "Flush of nothing", fmt.Sprint(more, errno), fmt.Sprint(false, api.OK))
		is(t, "Waiting", x.Waiting(), 0)
	}
	end.held(t, "flushed", x)
}

// TestLetGo: of a group that waits no more nothing is held on to.
func TestLetGo(t *testing.T) {
	x := empty(t)
	puts(t, x, group(put("a", "1")), group(put("b", "2")))
	queue := x.waiting
	flushes(t, x, 1)
	is(t, "the first group", len(queue[0]), 0)
	is(t, "the second one", len(queue[1]), 1)
}

// TestSync: P1903: all that wait, and what was flushed, stand on the chip.
func TestSync(t *testing.T) {
	for flushed := range 4 {
		x := empty(t)
		is(t, "Sync of nothing", x.Sync(), api.OK)
		puts(t, x, group(put("a", "1")), group(put("b", "2")), group(gone("a"), put("c", "3")))
		flushes(t, x, flushed)
		is(t, "Sync", x.Sync(), api.OK)
		is(t, "Waiting", x.Waiting(), 0)
		m := model{"b": "2", "c": "3"}
		m.held(t, "synced", x)
		idle(t, "another Sync", x, func() { is(t, "Sync", x.Sync(), api.OK) })
		m.held(t, "mounted", mounted(t, x.Store().Chip()))
	}
}

// TestFlushIsNotSync: what was flushed alone may be lost.
func TestFlushIsNotSync(t *testing.T) {
	x := empty(t)
	puts(t, x, group(put("a", "1")))
	is(t, "Sync", x.Sync(), api.OK)
	puts(t, x, group(put("a", "2")))
	idle(t, "Flush of a small group", x, func() { flushes(t, x, 1) })
	is(t, "mounted without a Sync", whole(t, "mounted", mounted(t, x.Store().Chip().Clone()))["a"], "1")
	is(t, "Sync", x.Sync(), api.OK)
	is(t, "mounted behind it", whole(t, "mounted", mounted(t, x.Store().Chip()))["a"], "2")
}

// TestSyncAsTheStore: behind the same groups the chip is the same.
func TestSyncAsTheStore(t *testing.T) {
	x := empty(t)
	s, _ := store.Format(chip(t, small))
	for n := range 40 {
		g := group(put(text(4, n%7), text(n*7%200, n)))
		puts(t, x, g)
		is(t, "the store's Put", s.Put(g), api.OK)
		if n%6 == 5 {
			is(t, "Sync", x.Sync(), s.Sync())
			is(t, "operations", x.Store().Chip().Ops(), s.Chip().Ops())
		}
	}
	is(t, "operations", s.Chip().Ops() > 20, true)
}

// wornOut: a cache whose store became spent within a Flush: so many groups were put ahead of it, and wait, and its map.
func wornOut(t *testing.T, g api.Geometry) (*Cache, model) {
	t.Helper()
	x := formatted(t, chip(t, g))
	puts(t, x, group(put("is kept", "1"), put("is in the store", "2"), put("is changed", "3")))
	is(t, "Sync", x.Sync(), api.OK)
	is(t, "Get", got(x, "is kept"), told("1"))
	m := model{"is kept": "1", "is in the store": "2", "is changed": "3"}
	for n := range 5 {
		l := group(put("waits", text(250, n)), put("is changed", text(n+1, n)), put(text(6, n), text(100, n)), gone(text(6, n-1)))
		puts(t, x, l)
		m = m.with(l)
	}
	var plan []api.Fault
	for n := range g.Reserve + 1 {
		plan = append(plan, api.Fault{At: 1 + n, Kind: api.Fail})
	}
	arm(t, x.Store().Chip(), plan...)
	return x, m
}

// TestSpent: P1903: a group for which the store says EROFS goes on waiting, and is there; Put says EROFS.
func TestSpent(t *testing.T) {
	for _, g := range []api.Geometry{small, least, bare} {
		x, m := wornOut(t, g)
		more, errno, waiting := true, api.OK, 0
		for more {
			waiting = x.Waiting()
			more, errno = x.Flush()
		}
		is(t, "Flush", fmt.Sprint(more, errno), fmt.Sprint(false, api.EROFS))
		is(t, "Spent", x.Store().Spent(), true)
		is(t, "Waiting", x.Waiting(), waiting)
		is(t, "some wait", waiting > 0, true)
		for range 3 {
			m.held(t, "spent", x)
			is(t, "Sync", x.Sync(), api.EROFS)
			_, errno = x.Flush()
			is(t, "Flush", errno, api.EROFS)
			for _, l := range [][]api.Node{group(put("a", "1")), group(gone("waits")), group(put("waits", "1")), group(put("a", text(256, 1)), put("b", text(256, 1)), put("c", text(256, 1)), put("d", text(256, 1)))} {
				is(t, "Put", x.Put(l), api.EROFS)
			}
			is(t, "Put of what is wrong", x.Put(nil), api.EINVAL)
			is(t, "Waiting", x.Waiting(), waiting)
			x.Evict(1)
		}
		x = New(x.Store())
		more, errno = x.Flush()
		is(t, "Flush of nothing", fmt.Sprint(more, errno), fmt.Sprint(false, api.OK))
	}
}

// TestSpentInSync: likewise of a Sync, which puts as many as it can.
func TestSpentInSync(t *testing.T) {
	for _, g := range []api.Geometry{small, least, bare} {
		x, m := wornOut(t, g)
		is(t, "Sync", x.Sync(), api.EROFS)
		is(t, "Spent", x.Store().Spent(), true)
		is(t, "some wait", x.Waiting() > 0, true)
		m.held(t, "spent", x)
	}
}

// TestFullStore: P1903, of a store into which somebody else put what takes the room: a group of which the store says so goes on waiting.
func TestFullStore(t *testing.T) {
	x := empty(t)
	puts(t, x, group(put("a", text(200, 1))))
	for n := range 8 { // 2688 in all
		x.Store().Put(group(put(text(8, n), text(256, n))))
	}
	more, errno := x.Flush()
	is(t, "Flush", fmt.Sprint(more, errno), fmt.Sprint(false, api.ENOSPC))
	is(t, "Sync", x.Sync(), api.ENOSPC)
	is(t, "Waiting", x.Waiting(), 1)
	is(t, "Get", got(x, "a"), told(text(200, 1)))
	is(t, "Cost", x.Cost(), 2688+266)
	is(t, "Put that costs as much", x.Put(group(put("a", text(200, 2)))), api.OK)
	is(t, "Put that costs more", x.Put(group(put("a", text(201, 2)))), api.ENOSPC)
	is(t, "Put that costs less", x.Put(group(put("a", text(199, 2)))), api.OK)
	is(t, "the store's Put", x.Store().Put(group(gone(text(8, 3)))), api.OK)
	is(t, "Sync", x.Sync(), api.OK)
	is(t, "Get", got(x, "a"), told(text(199, 2)))
	is(t, "Cost", x.Cost(), 2688+265-336)
}

// TestSpoilt: where the store can't read it says EIO; so does a Put that has to know what is there. What waits, or is kept, need not be read.
func TestSpoilt(t *testing.T) {
	x := empty(t)
	puts(t, x, group(put("a", "1"), put("b", "2"), put("c", "3"), put("d", "4")))
	is(t, "Sync", x.Sync(), api.OK)
	is(t, "Get", got(x, "b"), told("2"))
	puts(t, x, group(put("c", "33"), gone("d")))
	c := x.Store().Chip()
	for block := range c.Geometry().Blocks {
		c.Erase(block)
	}
	is(t, "Get", got(x, "a"), fmt.Sprintf(failed, api.EIO))
	is(t, "Put", x.Put(group(put("e", "5"), put("a", "11"))), api.EIO)
	is(t, "Waiting", x.Waiting(), 1)
	is(t, "Get", got(x, "e"), none)
	l, errno := x.Range("", "", 9)
	is(t, "Range", fmt.Sprint(len(l), errno), fmt.Sprint(0, api.EIO))
	is(t, "Get of what is kept", got(x, "b"), told("2"))
	is(t, "Get of what waits", got(x, "c"), told("33"))
	ranges(t, "of what waits", x, "c", "", 9, group(put("c", "33")))
	puts(t, x, group(put("b", "22"), gone("c"), put("d", "44")))
	ranges(t, "ahead of what can't be read", x, "b", "", 2, group(put("b", "22"), put("d", "44")))
}

// TestEvict: P1904: how many of the values that were read are kept.
func TestEvict(t *testing.T) {
	for _, c := range []struct{ most, want int }{{math.MaxInt, 6}, {7, 6}, {6, 6}, {5, 5}, {1, 1}, {0, 0}, {-1, 0}, {math.MinInt, 0}} {
		x := empty(t)
		is(t, "Evict of nothing", x.Evict(c.most), 0)
		m := model{}
		for n := range 8 {
			g := group(put(text(4, n), text(n, n)))
			puts(t, x, g)
			m = m.with(g)
		}
		for key := range m {
			x.Get(key)
		}
		is(t, "Evict of what waits", x.Evict(everything), 0)
		is(t, "Sync", x.Sync(), api.OK)
		is(t, "Evict of what was put", x.Evict(everything), 0)
		for n := range 6 {
			x.Get(text(4, n))
			x.Get(text(4, n))
			x.Get(text(4, n+100))
		}
		x.Get("")
		is(t, fmt.Sprint("Evict ", c.most), x.Evict(c.most), c.want)
		is(t, fmt.Sprint("Evict ", c.most, " again"), x.Evict(c.most), c.want)
		m.held(t, "evicted", x)
		is(t, "Evict of what was read anew", x.Evict(c.most) <= max(c.most, 0), true)
	}
}

// TestKept: what is read by Range is kept, too; what waits is not, from its Put on; a Put keeps nothing.
func TestKept(t *testing.T) {
	x := empty(t)
	puts(t, x, group(put("a", "1"), put("b", "2"), put("c", "3"), put("d", "4")))
	flushes(t, x, 1)
	ranged(t, "kept", x, "b", "", 2)
	is(t, "Evict", x.Evict(9), 2)
	is(t, "Get", got(x, "d"), told("4"))
	is(t, "Evict", x.Evict(9), 3)
	puts(t, x, group(put("b", "22"), gone("c"), put("a", "11"), put("e", "5")))
	is(t, "Evict", x.Evict(9), 1)
	is(t, "Put without room", x.Put(group(put("x", text(256, 1)), put("y", text(256, 1)), put("z", text(256, 1)), put("w", text(256, 1)), put("v", text(200, 1)))), api.OK)
	is(t, "Put without room", x.Put(group(put("x1", text(256, 1)), put("y1", text(256, 1)), put("z1", text(256, 1)), put("w1", text(256, 1)), put("d", "44"))), api.ENOSPC)
	is(t, "Evict", x.Evict(9), 1)
	flushes(t, x, 2)
	model{"a": "11", "b": "22", "d": "4", "e": "5", "x": text(256, 1), "y": text(256, 1), "z": text(256, 1), "w": text(256, 1), "v": text(200, 1)}.held(t, "flushed", x)
	is(t, "Evict", x.Evict(99), 9)
	is(t, "Evict", x.Evict(4), 4)
}
