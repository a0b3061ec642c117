package store

import (
	"fmt"
	"slices"
	"strings"
	"testing"

	"pumice/api"
	"pumice/ebm"
	"pumice/image"
	"pumice/index"
	"pumice/journal"
	"pumice/master"
	"pumice/nand"
)

// wrongGroups: such as no journal takes.
func wrongGroups() map[string][]api.Node {
	var many, big []api.Node
	for n := range api.MaxGroup + 1 {
		many = append(many, put(fmt.Sprint("k", n), ""))
	}
	for n := range 5 {
		big = append(big, put(text(25, n), text(api.MaxValue, n)))
	}
	return map[string][]api.Node{
		"nil":                  nil,
		"of no node":           {},
		"of too many":          many,
		"of too many bytes":    big,
		"of a key of no byte":  group(put("a", "1"), put("", "2")),
		"of too long a key":    group(put(text(api.MaxKey+1, 1), "")),
		"of too long a value":  group(put("a", text(api.MaxValue+1, 1))),
		"Gone with a value":    group(api.Node{Key: "a", Value: "1", Gone: true}),
		"of one key twice":     group(put("a", "1"), put("b", "2"), put("a", "1")),
		"of a key in and out":  group(put("a", "1"), gone("a")),
		"of a key out and in":  group(gone("a"), put("a", "1")),
		"in, out and in again": group(put("a", "1"), gone("a"), put("a", "2")),
	}
}

// TestPutOfWrongGroups: P1703, whatever else is wrong.
func TestPutOfWrongGroups(t *testing.T) {
	c, m := used(t, small)
	s := mounted(t, c)
	for what, g := range wrongGroups() {
		idle(t, what, c, func() { is(t, "Put "+what, s.Put(g), api.EINVAL) })
		m.held(t, what, s)
	}
	spent := mounted(t, marked(t, c.Clone(), 3))
	off := mounted(t, c.Clone())
	arm(t, off.Chip(), api.Fault{At: 1, Kind: api.Cut})
	is(t, "Put", off.Put(group(put("a", "1"))), api.ENXIO)
	for what, g := range wrongGroups() {
		is(t, "Put on a spent chip "+what, spent.Put(g), api.EINVAL)
		is(t, "Put with the power off "+what, off.Put(g), api.EINVAL)
	}
}

// TestPut: what is there, what is not, the shortest and the longest.
func TestPut(t *testing.T) {
	for _, g := range append(smallOnes(), great) {
		s, m := formatted(t, chip(t, g)), model{}
		var sixteen []api.Node
		for n := range api.MaxGroup {
			sixteen = append(sixteen, gone(string([]byte{byte(n * 17)})))
		}
		sixteen[3].Gone = false
		for i, g := range [][]api.Node{
			group(put("a", "")),
			group(put("a", "1")),
			group(put("a", "1")),
			group(gone("b")),
			group(gone("b"), put("c", "3"), gone("a")),
			group(put("\x00", "\x00"), put("\xff\xff", "\xff"), put("\xff", strings.Repeat("\xff", api.MaxValue))),
			group(put(text(api.MaxKey, 1), text(api.MaxValue, 1)), put(text(api.MaxKey-1, 1), "")),
			group(gone(text(api.MaxKey, 1)), gone("\xff"), gone("nothing")),
			sixteen,
			group(put("N", "x"), put("NN", "N"), put("\x01a", "a"), gone("N\x00")), // like what stands ahead of a key
		} {
			is(t, "Put", s.Put(g), api.OK)
			m = m.with(g)
			m.held(t, fmt.Sprint("behind Put ", i), s)
		}
		is(t, "Sync", s.Sync(), api.OK)
		m.held(t, "behind a Sync", s)
		m.held(t, "behind a Mount", mounted(t, s.Chip()))
	}
}

// TestPutOffOrSpent: nothing changes, and ENXIO comes first, then EROFS, then ENOSPC.
func TestPutOffOrSpent(t *testing.T) {
	c, m := used(t, small)
	s := mounted(t, c)
	full := m
	for n := 0; ; n++ {
		g := group(put(fmt.Sprint("full", n), text(9, n)))
		if s.Put(g) != api.OK {
			break
		}
		full = full.with(g)
	}
	is(t, "Sync", s.Sync(), api.OK)
	big := group(put("big", text(api.MaxValue, 1)))
	is(t, "Put", s.Put(big), api.ENOSPC)
	marked(t, c, 3)
	for _, g := range [][]api.Node{big, group(put("a", "1")), group(gone("full0"))} {
		idle(t, "Put", c, func() { is(t, "Put on a spent chip", s.Put(g), api.EROFS) })
		full.held(t, "a spent chip", s)
	}
	off := mounted(t, c)
	arm(t, c, api.Fault{At: 1, Kind: api.Cut})
	c.Erase(blockOf(t, off, "full0"))
	is(t, "On", c.On(), false)
	for _, g := range [][]api.Node{big, group(put("a", "1")), group(gone("full0"))} {
		is(t, "Put on a spent chip that is off", off.Put(g), api.ENXIO)
	}
}

// TestGet: P1704.
func TestGet(t *testing.T) {
	s := formatted(t, chip(t, small))
	longest := text(api.MaxKey, 1)
	is(t, "Put", s.Put(group(put("b", "2"), put(longest, "long"), put("n", ""), put("o", "3"))), api.OK)
	is(t, "Put", s.Put(group(gone("o"))), api.OK)
	check := func() {
		t.Helper()
		for _, c := range []struct {
			key, value string
			ok         bool
			errno      api.Errno
		}{
			{"", "", false, api.EINVAL},
			{longest + "x", "", false, api.EINVAL},
			{strings.Repeat("k", 1<<16), "", false, api.EINVAL},
			{longest, "long", true, api.OK},
			{longest[1:], "", false, api.OK},
			{"b", "2", true, api.OK},
			{"n", "", true, api.OK},
			{"o", "", false, api.OK},
			{"a", "", false, api.OK},
			{"bb", "", false, api.OK},
			{"\xff", "", false, api.OK},
		} {
			value, ok, errno := s.Get(c.key)
			is(t, fmt.Sprintf("Get(%.70q)", c.key), fmt.Sprint(value, ok, errno), fmt.Sprint(c.value, c.ok, c.errno))
		}
	}
	idle(t, "Get", s.Chip(), check)
	is(t, "Sync", s.Sync(), api.OK)
	check()
	is(t, "Commit", s.Commit(), api.OK)
	check()
	s = mounted(t, s.Chip())
	check()
}

// TestRange: P1704: from and to at, between and beyond keys, in all ways.
func TestRange(t *testing.T) {
	s, m := formatted(t, chip(t, small)), model{}
	ends := []string{"", "\x00", "a", "b", "bb", "c", "d", "dd", "e", "\xff", text(200, 1)}
	check := func(what string) {
		t.Helper()
		for _, from := range ends {
			for _, to := range ends {
				for _, most := range []int{0, 1, 2, len(m) - 1, len(m), len(m) + 1, everything} {
					if most < 0 {
						continue
					}
					got, want := ranged(t, s, from, to, most), m.nodes(from, to, most)
					if !slices.Equal(got, want) {
						t.Errorf("%s: Range(%.9q, %.9q, %d): %v, not %v", what, from, to, most, got, want)
					}
				}
				l, errno := s.Range(from, to, -1)
				is(t, "Range of most -1", fmt.Sprint(len(l), errno), fmt.Sprint(0, api.EINVAL))
			}
		}
	}
	idle(t, "Range", s.Chip(), func() { check("an empty map") })
	for i, g := range [][]api.Node{group(put("b", "2"), put("d", "")), group(put("bb", "22"), put("c", "3")), group(gone("c"), put("\xff", "5"), put("\x00", "0"))} {
		is(t, "Put", s.Put(g), api.OK)
		m = m.with(g)
		check(fmt.Sprint("group ", i))
	}
	is(t, "Commit", s.Commit(), api.OK)
	check("committed")
	s = mounted(t, s.Chip())
	check("mounted")
}

// TestOwnMemory: what is handed in stays as it is, what is handed out is the caller's.
func TestOwnMemory(t *testing.T) {
	s := formatted(t, chip(t, small))
	g := make([]api.Node, 2, 5)
	g[0], g[1] = put("a", "1"), put("b", "2")
	spare := put("spare", "room")
	g[:3][2] = spare
	is(t, "Put", s.Put(g), api.OK)
	is(t, "the group", fmt.Sprint(g[:3]), fmt.Sprint(group(put("a", "1"), put("b", "2"), spare)))
	g[0] = put("c", "3")
	m := model{"a": "1", "b": "2"}
	m.held(t, "behind a change of the group", s)
	l := ranged(t, s, "", "", 1)
	l = append(l, put("x", "y"))
	l[0] = put("z", "z")
	m.held(t, "behind a change of the answer", s)
	is(t, "Sync", s.Sync(), api.OK)
	m.held(t, "synced", s)
}

// blockOf: the block of the chip in which the node of a key stands.
func blockOf(t *testing.T, s *Store, key string) int {
	t.Helper()
	at, ok, errno := s.index.Get(key)
	is(t, "Get", fmt.Sprint(ok, errno), fmt.Sprint(true, api.OK))
	want, errno := s.m.Read(at.Leb, at.Pos/s.m.Page())
	is(t, "Read", errno, api.OK)
	for n := range s.Chip().Geometry().Blocks {
		got, errno := s.Chip().Read(n, 2+at.Pos/s.m.Page())
		if errno == api.OK && slices.Equal(got, want) {
			return n
		}
	}
	t.Fatalf("no block has the node %q", key)
	return 0
}

// TestSpoilt: others spoil what stands on the chip: what stood there is EIO, all else as it was.
func TestSpoilt(t *testing.T) {
	for _, erased := range []bool{false, true} {
		s := formatted(t, chip(t, small))
		is(t, "Put", s.Put(group(put("a", "1"), put("b", text(200, 2)))), api.OK)
		is(t, "Commit", s.Commit(), api.OK)
		is(t, "Put", s.Put(group(put("c", "3"))), api.OK)
		is(t, "Sync", s.Sync(), api.OK)
		is(t, "Put", s.Put(group(put("d", "4"))), api.OK)
		n := blockOf(t, s, "a")
		if !erased {
			arm(t, s.Chip(), api.Fault{At: 1, Kind: api.Fail})
		}
		s.Chip().Erase(n)
		for _, key := range []string{"a", "b"} {
			value, ok, errno := s.Get(key)
			is(t, "Get of what is spoilt", fmt.Sprint(value, ok, errno), fmt.Sprint("", false, api.EIO))
		}
		l, errno := s.Range("", "", everything)
		is(t, "Range of it", fmt.Sprint(len(l), errno), fmt.Sprint(0, api.EIO))
		is(t, "Range of others", fmt.Sprint(ranged(t, s, "c", "", everything)), fmt.Sprint(group(put("c", "3"), put("d", "4"))))
		is(t, "Range of none", len(ranged(t, s, "", "", 0)), 0)
	}
}

// TestMisled: an index that leads to where another node stands, or none.
func TestMisled(t *testing.T) {
	c := chip(t, small)
	m, _ := ebm.Format(c)
	j, x := journal.New(m, 3), index.New(m)
	is(t, "Add", j.Add(5), api.OK)
	places, errno := j.Append(group(put("right", "1"), put("other", "22"), put("tohre", "")))
	is(t, "Append", errno, api.OK)
	is(t, "Sync", j.Sync(), api.OK)
	first := slotOf(put("right", "1"), places[0]).At
	for key, at := range map[string]image.Place{
		"right":  first,
		"wrong":  first,                                             // another key
		"righ":   first,                                             // a shorter one
		"right1": first,                                             // a longer one
		"other":  {Leb: 5, Pos: places[1].Pos, Size: first.Size},    // a shorter value
		"tohre":  {Leb: 5, Pos: places[2].Pos, Size: first.Size},    // a longer one
		"torn":   {Leb: 5, Pos: first.Pos + 1, Size: first.Size},    // no frame begins there
		"blank":  {Leb: 5, Pos: m.Page() + 9, Size: 15},             // nothing was written
		"beyond": {Leb: 5, Pos: m.Page()*m.Pages() - 5, Size: 15},   // it would go beyond the logical block
		"behind": {Leb: 5, Pos: m.Page()*m.Pages() + 999, Size: 15}, // it would begin behind it
	} {
		is(t, "index.Put", x.Put(key, at), api.OK)
	}
	root, _, errno := x.Commit([]int{2, 3})
	is(t, "Commit", errno, api.OK)
	_, errno = master.Create(m, master.Record{Epoch: 4, Text: packed(root)})
	is(t, "Create", errno, api.OK)
	s := mounted(t, c)
	for _, slot := range mustSlots(t, s) {
		value, ok, errno := s.Get(slot.Key)
		if slot.Key == "right" {
			is(t, "Get", fmt.Sprint(value, ok, errno), fmt.Sprint("1", true, api.OK))
		} else {
			is(t, "Get of "+slot.Key, fmt.Sprint(value, ok, errno), fmt.Sprint("", false, api.EIO))
		}
	}
	l, errno := s.Range("", "", everything)
	is(t, "Range", fmt.Sprint(len(l), errno), fmt.Sprint(0, api.EIO))
}

func mustSlots(t *testing.T, s *Store) []image.Slot {
	t.Helper()
	slots, err := s.slots()
	is(t, "slots", err, nil)
	return slots
}

// asleep: each call of a store whose power is off, or was.
func asleep(t *testing.T, what string, s *Store) {
	t.Helper()
	idle(t, what, s.Chip(), func() {
		is(t, what+": Put", s.Put(group(put("a", "1"))), api.ENXIO)
		is(t, what+": Put", s.Put(group(gone("nothing"))), api.ENXIO)
		is(t, what+": a wrong Put", s.Put(nil), api.EINVAL)
		for key, want := range map[string]api.Errno{"": api.EINVAL, text(65, 1): api.EINVAL, "a": api.ENXIO, "nothing": api.ENXIO} {
			value, ok, errno := s.Get(key)
			is(t, what+": Get", fmt.Sprint(value, ok, errno), fmt.Sprint("", false, want))
		}
		for most, want := range map[int]api.Errno{-1: api.EINVAL, 0: api.ENXIO, 9: api.ENXIO} {
			l, errno := s.Range("", "", most)
			is(t, what+": Range", fmt.Sprint(len(l), errno), fmt.Sprint(0, want))
		}
		is(t, what+": Sync", s.Sync(), api.ENXIO)
		is(t, what+": Commit", s.Commit(), api.ENXIO)
		for _, step := range []func() (bool, api.Errno){s.Collect, s.Wear} {
			done, errno := step()
			is(t, what+": a step", fmt.Sprint(done, errno), fmt.Sprint(false, api.ENXIO))
		}
	})
	is(t, what+": Wrong", s.Chip().Wrong(), 0)
}

// cutOff: the power of a store's chip goes off within a Sync.
func cutOff(t *testing.T, s *Store) *nand.Chip {
	t.Helper()
	is(t, "Put", s.Put(group(put("cut", "off"))), api.OK)
	arm(t, s.Chip(), api.Fault{At: 1, Kind: api.Cut, Torn: 1})
	is(t, "Sync", s.Sync(), api.ENXIO)
	return s.Chip()
}

// TestOff: a store whose power went off is good for nothing, also when it is on again, and also on a spent chip.
func TestOff(t *testing.T) {
	c, _ := used(t, small)
	s := mounted(t, c)
	cutOff(t, s)
	asleep(t, "off", s)
	c.Power()
	asleep(t, "on again", s)
	marked(t, c, 3)
	asleep(t, "and spent", s)
	cost := s.Cost()
	is(t, "Cost", s.Cost() > 0 && cost == s.Cost(), true)
}
