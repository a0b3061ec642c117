package ebm

import (
	"fmt"
	"slices"
	"testing"

	"pumice/api"
	"pumice/nand"
	"pumice/scan"
)

// deed: a call, and what it makes of a chip's logical blocks.
type deed struct {
	name string
	do   func(m *Manager) api.Errno
	of   int // which one it changes
	to   leb // what that is then
}

// deeds: each call in each of its ways, on a chip that is mixed.
func deeds(t *testing.T) []deed {
	t.Helper()
	old := mixedLebs(t)
	write := func(n int) deed {
		return deed{fmt.Sprint("Write ", n), func(m *Manager) api.Errno { return m.Write(n, []byte("w")) }, n, leb{pages: old[n].pages + text("w")}}
	}
	unmap := func(n int) deed {
		return deed{fmt.Sprint("Unmap ", n), func(m *Manager) api.Errno { return m.Unmap(n) }, n, leb{}}
	}
	change := func(n, size int) deed {
		l := many("x", size)
		return deed{fmt.Sprint("Change ", n, " to ", size), func(m *Manager) api.Errno { return m.Change(n, cells(l...)) }, n, leb{pages: text(l...)}}
	}
	wear := deed{"Wear", func(m *Manager) api.Errno {
		moved, errno := m.Wear()
		is(t, "Wear", moved, errno == api.OK)
		return errno
	}, 1, old[1]}
	return []deed{
		write(0), write(3), write(4), unmap(0), unmap(1), unmap(2), unmap(3),
		change(0, 0), change(0, 3), change(1, smallRoom), change(2, 1), change(3, 2), change(4, 0), change(4, 2), wear,
	}
}

// crowded: a mixed chip on which all logical blocks but 4 are mapped, with this many blocks in reserve.
func crowded(t *testing.T, reserve int) *nand.Chip {
	t.Helper()
	c := mixed(t, small)
	m := attached(t, c)
	for n := 5; n < smallLebs; n++ {
		is(t, "Write", m.Write(n, []byte("z")), api.OK)
	}
	// The most worn Free blocks go last: Wear has something to do then.
	for n := range slices.Values([]int{4, 5, 6, 8, 12, 13, 14, 15, 10, 11}) {
		if m.Spare() > reserve && m.blocks[n].State == scan.Free {
			c.Mark(n)
		}
	}
	is(t, "Spare", m.Spare(), reserve)
	return c
}

func crowdedLebs(t *testing.T) lebs {
	t.Helper()
	l := mixedLebs(t)
	for n := 5; n < smallLebs; n++ {
		l = l.with(n, leb{pages: text("z")})
	}
	return l
}

// opsOf: how many operations a deed makes, if nothing fails.
func opsOf(t *testing.T, c *nand.Chip, d deed) int {
	t.Helper()
	c = c.Clone()
	ops := c.Ops()
	is(t, d.name, d.do(attached(t, c)), api.OK)
	return c.Ops() - ops
}

// fails: a plan of failures at these operations.
func fails(at ...int) []api.Fault {
	var l []api.Fault
	for _, n := range at {
		l = append(l, api.Fault{At: n, Kind: api.Fail})
	}
	return l
}

// TestOneFailure: at each operation of each call: nobody sees it, but one block less is good.
func TestOneFailure(t *testing.T) {
	for _, d := range deeds(t) {
		c := crowded(t, 2)
		for at := 1; at <= opsOf(t, c, d); at++ {
			what := fmt.Sprint(d.name, ", failing at ", at)
			m := attached(t, c.Clone())
			arm(t, m.chip, fails(at)...)
			is(t, what, d.do(m), api.OK)
			same(t, what, looked(t, m), crowdedLebs(t).with(d.of, d.to))
			is(t, what+": Spare", m.Spare(), 1)
			sound(t, what, m)
			same(t, what+": attached", looked(t, attached(t, m.chip)), crowdedLebs(t).with(d.of, d.to))
			sound(t, what, m)
		}
	}
}

// TestTwoFailures: also within the copying that the first one made; with a block in reserve, and with none: the chip is spent then, but what was to be done is done.
func TestTwoFailures(t *testing.T) {
	for _, reserve := range []int{1, 0} {
		for _, d := range deeds(t) {
			c := crowded(t, reserve)
			ops := opsOf(t, c, d)
			for first := 1; first <= ops; first++ {
				for second := first + 1; second <= first+ops+2; second++ {
					what := fmt.Sprint(d.name, ", failing at ", first, " and ", second, ", reserve ", reserve)
					m := attached(t, c.Clone())
					arm(t, m.chip, fails(first, second)...)
					is(t, what, d.do(m), api.OK)
					same(t, what, looked(t, m), crowdedLebs(t).with(d.of, d.to))
					sound(t, what, m)
					same(t, what+": attached", looked(t, attached(t, m.chip)), crowdedLebs(t).with(d.of, d.to))
				}
			}
		}
	}
}

// TestManyFailures: so many operations fail, from each one on, until no block is left: then the call says EROFS, and nothing changed.
func TestManyFailures(t *testing.T) {
	refused := 0
	for _, reserve := range []int{2, 0} {
		for _, d := range deeds(t) {
			c := crowded(t, reserve)
			for from := 1; from <= opsOf(t, c, d); from++ {
				for times := 1; times <= reserve+5; times++ {
					what := fmt.Sprint(d.name, ", failing ", times, " times from ", from, ", reserve ", reserve)
					var plan []api.Fault
					for i := range times {
						plan = append(plan, fails(from+i)...)
					}
					if failing(t, what, c.Clone(), d, plan) == api.EROFS {
						refused++
					}
				}
			}
		}
	}
	if refused < 20 {
		t.Errorf("EROFS came %d times alone", refused)
	}
}

// failing: a deed with a plan of failures: done, or not at all.
func failing(t *testing.T, what string, c *nand.Chip, d deed, plan []api.Fault) api.Errno {
	t.Helper()
	m := attached(t, c)
	arm(t, c, plan...)
	errno := d.do(m)
	want := crowdedLebs(t)
	switch errno {
	case api.OK:
		want = want.with(d.of, d.to)
	case api.EROFS:
		is(t, what+": a Free block is left", scan.Least(m.blocks), -1)
		is(t, what+": Spent", m.Spent(), true)
	default:
		t.Errorf("%s: %d", what, errno)
	}
	same(t, what, looked(t, m), want)
	is(t, what+": Wrong", c.Wrong(), 0)
	arm(t, c)
	if m.Spent() {
		readOnly(t, m)
	}
	after := attached(t, c)
	is(t, what+": Spent", after.Spent(), m.Spent())
	is(t, what+": Spare", after.Spare(), m.Spare())
	got := looked(t, after)
	if errno == api.EROFS {
		// The page that failed last can't be undone: behind Attach it is seen.
		got[d.of].closed = want[d.of].closed
	}
	same(t, what+": attached", got, want)
	return errno
}

// TestCopiesThatFail: each copy is whole, but the page behind it fails, until no block is left: what was there stands in the last copy.
func TestCopiesThatFail(t *testing.T) {
	for reserve := range 3 {
		blocks := reserve + 3 // that are Free: one logical block is not mapped
		for times := 1; times <= blocks+1; times++ {
			c := crowded(t, reserve)
			m := attached(t, c)
			var plan []api.Fault
			for i := range times {
				plan = append(plan, fails(1+4*i)...) // a failure, then a Mapping and two pages
			}
			arm(t, c, plan...)
			ops, want := c.Ops(), crowdedLebs(t)
			if times <= blocks {
				is(t, "Write", m.Write(0, []byte("w")), api.OK)
				want = want.with(0, leb{pages: text("a0", "a1", "w")})
			} else {
				is(t, "Write", m.Write(0, []byte("w")), api.EROFS)
			}
			is(t, "Ops", c.Ops()-ops, 1+4*min(times, blocks))
			same(t, "lebs", looked(t, m), want)
			is(t, "bad ones", len(m.among(scan.Bad)), 2-reserve+min(times, blocks))
			is(t, "Wrong", c.Wrong(), 0)
			same(t, "attached", looked(t, attached(t, c))[0].pages, want[0].pages)
		}
	}
}

// TestFailuresWithoutEnd: whatever a manager is asked for, each operation fails.
func TestFailuresWithoutEnd(t *testing.T) {
	for _, d := range deeds(t) {
		c := crowded(t, 2)
		m := attached(t, c)
		var plan []api.Fault
		for i := range api.MaxFaults {
			plan = append(plan, fails(i+1)...)
		}
		arm(t, c, plan...)
		want := crowdedLebs(t)
		if errno := d.do(m); errno == api.OK {
			want = want.with(d.of, d.to)
		} else {
			is(t, d.name, errno, api.EROFS)
			is(t, d.name+": Spent", m.Spent(), true)
		}
		same(t, d.name, looked(t, m), want)
		is(t, d.name+": Wrong", c.Wrong(), 0)
	}
}

// TestUnmapsThatFail: none of them needs a block, so each is done, until the chip is spent.
func TestUnmapsThatFail(t *testing.T) {
	m := attached(t, crowded(t, 2))
	arm(t, m.chip, fails(1, 2, 3, 4, 5, 6)...)
	want := crowdedLebs(t)
	for n := range 3 {
		is(t, "Unmap", m.Unmap(n), api.OK)
		want = want.with(n, leb{})
		same(t, "lebs", looked(t, m), want)
		is(t, "Spent", m.Spent(), n == 2)
		sound(t, "Unmap", m)
	}
	readOnly(t, m)
	same(t, "lebs", looked(t, m), want)
	same(t, "attached", looked(t, attached(t, m.chip)), want)
}

// TestFormatFails: at each operation, so often: blocks that fail are marked, the others are freed.
func TestFormatFails(t *testing.T) {
	for from := 1; from <= 2*small.Blocks; from++ {
		for times := range small.Blocks + 1 {
			c := made(t, small)
			var plan []api.Fault
			for i := range times {
				plan = append(plan, fails(from+i)...)
			}
			arm(t, c, plan...)
			m, errno := Format(c)
			is(t, "Format", errno, api.OK)
			same(t, "lebs", looked(t, m), make(lebs, smallLebs))
			sound(t, "Format", m)
			bad := small.Blocks - scan.Good(m.blocks)
			is(t, "Spent", m.Spent(), bad > small.Reserve)
			is(t, "all others are Free", len(m.among(scan.Free)), small.Blocks-bad)
			if from == 1 {
				is(t, "bad ones", bad, times)
			}
		}
	}
}

// TestAttachFails: a Spoilt block that fails is marked.
func TestAttachFails(t *testing.T) {
	for from := 1; from <= 8; from++ {
		for times := 1; times <= 4; times++ {
			c := mixed(t, small)
			var plan []api.Fault
			for i := range times {
				plan = append(plan, fails(from+i)...)
			}
			arm(t, c, plan...)
			m, errno := Attach(c)
			is(t, "Attach", errno, api.OK)
			same(t, "lebs", looked(t, m), mixedLebs(t))
			sound(t, "Attach", m)
			is(t, "Spoilt ones", len(m.among(scan.Spoilt)), 0)
			if from == 1 {
				is(t, "bad ones", len(m.among(scan.Bad)), times)
				is(t, "Spent", m.Spent(), times > 2)
			}
		}
	}
}
