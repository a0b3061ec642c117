package store

import (
	"fmt"
	"testing"

	"pumice/api"
	"pumice/ebm"
	"pumice/image"
	"pumice/index"
	"pumice/master"
	"pumice/nand"
	"pumice/scan"
	"pumice/space"
)

func TestExample(t *testing.T) {
	c := chip(t, small)
	s := formatted(t, c)
	is(t, "Put", s.Put(group(put("a", "1"), put("b", "2"))), api.OK)
	is(t, "Put", s.Put(group(gone("a"))), api.OK)
	value, ok, errno := s.Get("a")
	is(t, "Get", fmt.Sprint(value, ok, errno), fmt.Sprint("", false, api.OK))
	is(t, "Range", fmt.Sprint(ranged(t, s, "", "", 5)), fmt.Sprint(group(put("b", "2"))))
	is(t, "Sync", s.Sync(), api.OK)
	is(t, "Put", s.Put(group(put("c", "3"))), api.OK)
	arm(t, c, api.Fault{At: 1, Kind: api.Cut, Torn: 1})
	is(t, "Sync", s.Sync(), api.ENXIO)
	c.Power()
	s = mounted(t, c)
	model{"b": "2"}.held(t, "behind the cut", s)
}

// marked: a chip of which so many blocks more are bad than others have taken.
func marked(t *testing.T, c *nand.Chip, blocks int) *nand.Chip {
	t.Helper()
	for n := c.Geometry().Blocks - 1; blocks > 0 && n >= 0; n-- {
		if c.Next(n) <= 1 && !c.Bad(n) { // nothing stands there
			is(t, "Mark", c.Mark(n), api.OK)
			blocks--
		}
	}
	is(t, "blocks to mark", blocks, 0)
	return c
}

// dark: a chip whose power is off.
func dark(t *testing.T, c *nand.Chip) *nand.Chip {
	t.Helper()
	c = c.Clone()
	arm(t, c, api.Fault{At: 1, Kind: api.Cut})
	for n := range c.Geometry().Blocks {
		if !c.Bad(n) {
			is(t, "Erase", c.Erase(n), api.ENXIO)
			break
		}
	}
	is(t, "On", c.On(), false)
	return c
}

// used: a chip on which a store stands, with something in segments, in the index, and behind it.
func used(t *testing.T, g api.Geometry) (*nand.Chip, model) {
	t.Helper()
	s, m := formatted(t, chip(t, g)), model{}
	for n := range 90 {
		g := group(put(text(1+n%5, n%7), text(n*37%200, n)), gone(text(2, n%11)))
		if s.Put(g) == api.OK {
			m = m.with(g)
		}
		if n == 70 {
			is(t, "Commit", s.Commit(), api.OK)
		}
	}
	is(t, "Sync", s.Sync(), api.OK)
	m.held(t, "used", s)
	return s.Chip(), m
}

func none(t *testing.T, what string, s *Store, errno, want api.Errno) {
	t.Helper()
	is(t, what, errno, want)
	is(t, what+": a store beside it", s == nil, true)
}

// TestFormat: P1701.
func TestFormat(t *testing.T) {
	s, errno := Format(nil)
	none(t, "of nil", s, errno, api.EFAULT)
	for _, g := range append(smallOnes(), middle, great) {
		blank := chip(t, g)
		s, errno = Format(dark(t, blank))
		none(t, "of one that is off", s, errno, api.ENXIO)
		s, errno = Format(dark(t, marked(t, blank.Clone(), g.Reserve+1)))
		none(t, "of one that is off and spent", s, errno, api.ENXIO)
		spent := marked(t, blank.Clone(), g.Reserve+1)
		s, errno = Format(spent)
		none(t, "of one that is spent", s, errno, api.EROFS)
		frugal(t, "Format", blank, func() { s = formatted(t, blank) })
		empty(t, "of a new chip", s)
		worn := chip(t, g)
		marked(t, worn, g.Reserve)
		empty(t, "of one without a spare block", formatted(t, worn))
	}
}

// empty: an empty store, also where it is mounted, and there is room for something.
func empty(t *testing.T, what string, s *Store) {
	t.Helper()
	model{}.held(t, what, s)
	model{}.held(t, what+", mounted", mounted(t, s.Chip()))
	is(t, what+": Put", s.Put(group(put("a", "1"))), api.OK)
	model{"a": "1"}.held(t, what+", behind a Put", s)
}

// TestFormatAnew: whatever stood on the chip.
func TestFormatAnew(t *testing.T) {
	for _, g := range smallOnes() {
		c, _ := used(t, g)
		frugal(t, "Format", c, func() { empty(t, "where a store stood", formatted(t, c)) })
		empty(t, "where its like stood", formatted(t, c))
		other := chip(t, g)
		m, errno := ebm.Format(other)
		is(t, "ebm.Format", errno, api.OK)
		for leb := range m.Lebs() {
			is(t, "Write", m.Write(leb, []byte(text(g.Page, leb))), api.OK)
		}
		empty(t, "where something else stood", formatted(t, other))
		spent, was := used(t, g)
		marked(t, spent, g.Reserve+1)
		ops := spent.Ops()
		s, errno := Format(spent)
		none(t, "of a store's chip that is spent", s, errno, api.EROFS)
		is(t, "operations", spent.Ops(), ops)
		is(t, "what stands there", fmt.Sprint(whole(t, mounted(t, spent))), fmt.Sprint(was))
	}
}

// usedAbove: a chip on which a store stands whose master is in the last of its blocks, so that an erase of all comes to it last.
func usedAbove(t *testing.T) (*nand.Chip, model) {
	t.Helper()
	c, m := used(t, small)
	s := mounted(t, c)
	for n := range 2000 {
		blocks, errno := scan.Scan(c)
		is(t, "Scan", errno, api.OK)
		last := 0
		for block, b := range blocks {
			if b.State == scan.Mapped {
				last = block
			}
		}
		if last == scan.Find(blocks, home) && len(s.book.Frees()) < s.m.Lebs()-2 {
			return c, m
		}
		g := group(put("n", text(9, n)))
		is(t, "Put", s.Put(g), api.OK)
		is(t, "Commit", s.Commit(), api.OK)
		m = m.with(g)
	}
	t.Fatal("the master is never last")
	return nil, nil
}

// TestFormatCut: behind a cut the store that stood there is whole, or there is none, or an empty one.
func TestFormatCut(t *testing.T) {
	base, was := usedAbove(t)
	for n := 1; ; n++ {
		for torn := range 3 {
			c := base.Clone()
			arm(t, c, api.Fault{At: n, Kind: api.Cut, Torn: torn})
			s, errno := Format(c)
			if errno == api.OK {
				is(t, "operations", n > 2*small.Blocks, true)
				empty(t, "Format", s)
				return
			}
			what := fmt.Sprint("cut at ", n, ", torn ", torn)
			none(t, what, s, errno, api.ENXIO)
			c.Power()
			s, errno = Mount(c)
			switch {
			case errno == api.EUCLEAN:
				none(t, what, s, errno, api.EUCLEAN)
			case errno == api.OK && len(whole(t, s)) > 0:
				was.held(t, what, s)
			default:
				is(t, what+": Mount", errno, api.OK)
				model{}.held(t, what, s)
			}
			arm(t, c)
			empty(t, what+", formatted again", formatted(t, c))
		}
	}
}

// TestMount: P1702.
func TestMount(t *testing.T) {
	s, errno := Mount(nil)
	none(t, "of nil", s, errno, api.EFAULT)
	for _, g := range append(smallOnes(), middle) {
		blank := chip(t, g)
		s, errno = Mount(dark(t, blank))
		none(t, "of one that is off", s, errno, api.ENXIO)
		s, errno = Mount(blank)
		none(t, "of a new one", s, errno, api.EUCLEAN)
		s, errno = Mount(marked(t, chip(t, g), g.Reserve+1))
		none(t, "of a new one that is spent", s, errno, api.EUCLEAN)
		c, m := used(t, g)
		s, errno = Mount(dark(t, c))
		none(t, "of a store's that is off", s, errno, api.ENXIO)
		frugal(t, "Mount", c, func() { s = mounted(t, c) })
		m.held(t, "Mount", s)
		m.held(t, "Mount of it as it was", mounted(t, c))
		is(t, "Commit", s.Commit(), api.OK)
		m.held(t, "Mount behind a Commit", mounted(t, c))
		marked(t, c, g.Reserve+1)
		ops := c.Ops()
		s = mounted(t, c)
		is(t, "Spent", s.Spent(), true)
		is(t, "operations on a spent chip", c.Ops(), ops)
		m.held(t, "Mount of a spent chip", s)
	}
}

// TestMountOfOthers: something else stands on the chip.
func TestMountOfOthers(t *testing.T) {
	for _, text := range []string{"", "a", "\x00\x00\x00\x00\x00\x00", "\x00\x00\x00\x00\x00\x00\x00\x00", packed(image.Place{Leb: 3, Pos: 0, Size: 18}), packed(image.Place{Leb: 200}), packed(image.Place{Pos: 5}), "\xff\xff\xff\xff\xff\xff\xff"} {
		c := chip(t, small)
		m, _ := ebm.Format(c)
		_, errno := master.Create(m, master.Record{Epoch: 1, Text: text})
		is(t, "Create", errno, api.OK)
		s, errno := Mount(c)
		none(t, fmt.Sprintf("of a record with %q", text), s, errno, api.EUCLEAN)
	}
	c := chip(t, small)
	m, _ := ebm.Format(c)
	is(t, "Write", m.Write(0, []byte("something else")), api.OK)
	s, errno := Mount(c)
	none(t, "without a master", s, errno, api.EUCLEAN)
}

// TestMountOfWrongIndexes: an index that leads to where no node can be.
func TestMountOfWrongIndexes(t *testing.T) {
	for _, at := range []image.Place{
		{Leb: 0, Pos: 0, Size: 20},         // the master's
		{Leb: 5, Pos: 0, Size: 20},         // the index' own
		{Leb: 12, Pos: 0, Size: 20},        // none
		{Leb: 255, Pos: 1 << 20, Size: 20}, // none
		{Leb: 3, Pos: 0, Size: 0},
		{Leb: 3, Pos: 0, Size: 9},                // no key
		{Leb: 3, Pos: 0, Size: 11 + 256},         // too long a value
		{Leb: 3, Pos: 1 << 23, Size: 1<<16 - 10}, // much too long
	} {
		c := chip(t, small)
		m, _ := ebm.Format(c)
		x := index.New(m)
		is(t, "Put", x.Put("a", at), api.OK)
		root, _, errno := x.Commit([]int{5})
		is(t, "Commit", errno, api.OK)
		_, errno = master.Create(m, master.Record{Epoch: 1, Text: packed(root)})
		is(t, "Create", errno, api.OK)
		s, errno := Mount(c)
		none(t, fmt.Sprintf("of an index with %+v", at), s, errno, api.EUCLEAN)
	}
}

// TestUnmounted: whatever Mount comes of.
func TestUnmounted(t *testing.T) {
	for errno, want := range map[api.Errno]api.Errno{api.EFAULT: api.EFAULT, api.ENXIO: api.ENXIO, api.EIO: api.EIO, api.EUCLEAN: api.EUCLEAN, api.EINVAL: api.EUCLEAN, api.ENOSPC: api.EUCLEAN, api.EBUSY: api.EUCLEAN} {
		is(t, "unmounted", unmounted(failed("where", api.OK, errno)), want)
	}
	is(t, "its text", failed("where", api.EIO).Error(), "where: "+api.EIO.Error())
}

// TestLooks: P1712.
func TestLooks(t *testing.T) {
	for _, g := range append(smallOnes(), middle, great) {
		c := chip(t, g)
		s := formatted(t, c)
		is(t, "Limit", s.Limit(), space.Limit(g))
		is(t, "Cost", s.Cost(), 0)
		is(t, "Spent", s.Spent(), false)
		is(t, "Chip", s.Chip(), c)
		is(t, "Put", s.Put(group(put("ab", "c"), put("d", ""))), api.OK)
		is(t, "Cost", s.Cost(), 69+66)
		is(t, "Put", s.Put(group(put("ab", "cdef"), gone("x"))), api.OK)
		is(t, "Cost", s.Cost(), 72+66)
		is(t, "Put", s.Put(group(gone("ab"))), api.OK)
		is(t, "Cost", s.Cost(), 66)
		is(t, "Sync", s.Sync(), api.OK)
		is(t, "Cost of a Mount", mounted(t, c).Cost(), 66)
		marked(t, c, g.Reserve)
		is(t, "Spent", s.Spent(), false)
		marked(t, c, 1)
		is(t, "Spent", s.Spent(), true)
	}
}

// TestNil: a nil store.
func TestNil(t *testing.T) {
	var s *Store
	is(t, "Put", s.Put(group(put("a", "1"))), api.EFAULT)
	is(t, "Put of a wrong group", s.Put(nil), api.EFAULT)
	for _, key := range []string{"", "a", text(65, 1)} {
		value, ok, errno := s.Get(key)
		is(t, "Get", fmt.Sprint(value, ok, errno), fmt.Sprint("", false, api.EFAULT))
	}
	for _, most := range []int{-1, 0, 1} {
		l, errno := s.Range("", "", most)
		is(t, "Range", fmt.Sprint(len(l), errno), fmt.Sprint(0, api.EFAULT))
	}
	is(t, "Sync", s.Sync(), api.EFAULT)
	is(t, "Commit", s.Commit(), api.EFAULT)
	for what, step := range map[string]func() (bool, api.Errno){"Collect": s.Collect, "Wear": s.Wear} {
		done, errno := step()
		is(t, what, fmt.Sprint(done, errno), fmt.Sprint(false, api.EFAULT))
	}
	is(t, "Cost", s.Cost(), 0)
	is(t, "Limit", s.Limit(), 0)
	is(t, "Spent", s.Spent(), false)
	is(t, "Chip", s.Chip() == nil, true)
}
