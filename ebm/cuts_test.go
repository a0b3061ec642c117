package ebm

import (
	"fmt"
	"math"
	"reflect"
	"testing"

	"pumice/api"
	"pumice/header"
	"pumice/nand"
	"pumice/scan"
)

// silent: each call but looks says ENXIO.
func silent(t *testing.T, what string, m *Manager) {
	t.Helper()
	for n := range m.Lebs() {
		data, errno := m.Read(n, 0)
		is(t, what+": Read", errno, api.ENXIO)
		is(t, what+": Read", len(data), 0)
		_, errno = m.Read(n, m.Pages()-1)
		is(t, what+": Read", errno, api.ENXIO)
		is(t, what+": Write", m.Write(n, nil), api.ENXIO)
		is(t, what+": Unmap", m.Unmap(n), api.ENXIO)
		is(t, what+": Change", m.Change(n, nil), api.ENXIO)
	}
	moved, errno := m.Wear()
	is(t, what+": Wear", errno, api.ENXIO)
	is(t, what+": Wear", moved, false)
}

// lookable: looks go on, and tell what was, or would have been.
func lookable(t *testing.T, what string, m *Manager, was, would lebs) {
	t.Helper()
	for n := range m.Lebs() {
		if used := m.Used(n); used != usedOf(was[n]) && used != usedOf(would[n]) {
			t.Errorf("%s: Used(%d): %d", what, n, used)
		}
		if closed := m.Closed(n); closed != was[n].closed && closed != would[n].closed {
			t.Errorf("%s: Closed(%d): %v", what, n, closed)
		}
	}
	is(t, what+": Lebs", m.Lebs(), smallLebs)
	is(t, what+": Pages", m.Pages(), smallRoom)
	is(t, what+": Spent", m.Spent(), false)
}

func usedOf(b leb) int {
	n := 0
	for _, r := range b.pages {
		if r == '/' {
			n++
		}
	}
	return n
}

// cutOff: a deed within which the power goes off; then the chip is on again. It tells what stands there behind Attach.
func cutOff(t *testing.T, what string, c *nand.Chip, d deed, plan []api.Fault) lebs {
	t.Helper()
	m := attached(t, c)
	arm(t, c, plan...)
	is(t, what, d.do(m), api.ENXIO)
	is(t, what+": On", c.On(), false)
	silent(t, what, m)
	lookable(t, what, m, crowdedLebs(t), crowdedLebs(t).with(d.of, d.to))
	c.Power()
	ops := c.Ops()
	silent(t, what+", with the power on", m)
	is(t, what+": Ops", c.Ops(), ops)
	interrupted(t, what, c)
	m = attached(t, c)
	got := looked(t, m)
	sound(t, what, m)
	usable(t, what, m, got)
	return got
}

// allowed: a deed was done, or not at all; a Write may have closed its logical block.
func allowed(t *testing.T, what string, got lebs, d deed) {
	t.Helper()
	was := crowdedLebs(t)
	shut := was[d.of]
	shut.closed = true
	switch {
	case reflect.DeepEqual(got, was), reflect.DeepEqual(got, was.with(d.of, d.to)):
	case d.name == "Wear" && got[d.of].pages == was[d.of].pages:
	case d.name[:5] == "Write" && reflect.DeepEqual(got, was.with(d.of, shut)):
	default:
		t.Errorf("%s: %+v", what, got)
	}
}

// interrupted: the power goes off within Attach, at each of its operations: the next one tells the same.
func interrupted(t *testing.T, what string, c *nand.Chip) {
	t.Helper()
	twin := c.Clone()
	ops := twin.Ops()
	want := looked(t, attached(t, twin))
	for at := 1; at <= twin.Ops()-ops; at++ {
		for torn := range 3 {
			twin := c.Clone()
			// It goes off in the next Attach, too, in the middle of what it does first.
			arm(t, twin, api.Fault{At: at, Kind: api.Cut, Torn: torn}, api.Fault{At: at + 1, Kind: api.Cut, Torn: 1}, api.Fault{At: at + 3, Kind: api.Cut, Torn: 2})
			for range 3 {
				m, errno := Attach(twin)
				if errno == api.OK {
					break // what is left is less than the plan asks for
				}
				is(t, what+": Attach", errno, api.ENXIO)
				is(t, what+": Attach", m, nil)
				twin.Power()
			}
			arm(t, twin)
			m := attached(t, twin)
			same(t, fmt.Sprint(what, ", then Attach at ", at, " torn ", torn), looked(t, m), want)
			sound(t, what, m)
		}
	}
}

// usable: a manager goes on behind a cut.
func usable(t *testing.T, what string, m *Manager, l lebs) {
	t.Helper()
	m = attached(t, m.chip.Clone())
	for n := range l {
		is(t, what+": Change", m.Change(n, cells("1")), api.OK)
		is(t, what+": Write", m.Write(n, []byte("2")), api.OK)
		l = l.with(n, leb{pages: text("1", "2")})
	}
	same(t, what, looked(t, m), l)
	sound(t, what, m)
}

// TestCuts: the power goes off at each operation of each call, torn in each way.
func TestCuts(t *testing.T) {
	for _, d := range deeds(t) {
		c := crowded(t, 2)
		ops := opsOf(t, c, d)
		for at := 1; at <= ops; at++ {
			for torn := range 3 {
				what := fmt.Sprint(d.name, ", cut at ", at, " torn ", torn)
				got := cutOff(t, what, c.Clone(), d, []api.Fault{{At: at, Kind: api.Cut, Torn: torn}})
				allowed(t, what, got, d)
				if at == 1 && torn == 0 {
					same(t, what+": nothing was done", got, crowdedLebs(t))
				}
				if at == ops && torn == 2 {
					same(t, what+": all was done", got, crowdedLebs(t).with(d.of, d.to))
				}
			}
		}
	}
}

// TestCutsBehindFailures: the power goes off in what a failure made.
func TestCutsBehindFailures(t *testing.T) {
	for _, d := range deeds(t) {
		c := crowded(t, 2)
		ops := opsOf(t, c, d)
		for fail := 1; fail <= ops; fail++ {
			for at := fail + 1; at <= fail+ops; at++ {
				for torn := range 3 {
					what := fmt.Sprint(d.name, ", failing at ", fail, ", cut at ", at, " torn ", torn)
					twin := c.Clone()
					m := attached(t, twin)
					arm(t, twin, api.Fault{At: fail, Kind: api.Fail}, api.Fault{At: at, Kind: api.Cut, Torn: torn})
					if d.do(m) == api.OK {
						continue // it was done ahead of the cut
					}
					is(t, what+": On", twin.On(), false)
					twin.Power()
					m = attached(t, twin)
					allowed(t, what, looked(t, m), d)
					sound(t, what, m)
				}
			}
		}
	}
}

// TestSeqs: what is written behind Attach is newer than all that stands there: where the old block is not erased yet, the new one counts.
func TestSeqs(t *testing.T) {
	m := attached(t, mixed(t, small))
	m.Write(7, nil)
	is(t, "Seq of a Write", m.blocks[scan.Find(m.blocks, 7)].Seq, 10)
	arm(t, m.chip, api.Fault{At: 1 + 2 + 1, Kind: api.Cut})
	is(t, "Change", m.Change(0, cells("x", "y")), api.ENXIO)
	m.chip.Power()
	m = attached(t, m.chip)
	same(t, "lebs", looked(t, m)[0], leb{pages: text("x", "y")})
	is(t, "Seq of a Change", m.blocks[scan.Find(m.blocks, 0)].Seq, 11)
}

// TestLastSeq: no Seq is greater than the greatest: whichever counts of two copies, it is the old one or the new one, whole.
func TestLastSeq(t *testing.T) {
	for at := 1; at <= 1+2+2; at++ {
		for torn := range 3 {
			c := made(t, small)
			lay(t, c, 3, 1, header.Map{Leb: 0, Seq: math.MaxUint64}, "a", "b")
			m := attached(t, c)
			arm(t, c, api.Fault{At: at, Kind: api.Cut, Torn: torn})
			is(t, "Change", m.Change(0, cells("x", "y")), api.ENXIO)
			c.Power()
			m = attached(t, c)
			if got := looked(t, m)[0].pages; got != text("a", "b") && got != text("x", "y") {
				t.Errorf("cut at %d torn %d: %q", at, torn, got)
			}
			for i := range 3 {
				is(t, "Change", m.Change(0, cells(many("z", i)...)), api.OK)
				m = attached(t, c)
				is(t, "changed", looked(t, m)[0].pages, text(many("z", i)...))
			}
		}
	}
}

// TestWriteTorn: of a Write whose page is torn the logical block is closed, with the pages that it had.
func TestWriteTorn(t *testing.T) {
	for used := range smallRoom {
		m := formatted(t, small)
		m.Change(6, cells(many("p", used)...))
		arm(t, m.chip, api.Fault{At: 1, Kind: api.Cut, Torn: 1})
		is(t, "Write", m.Write(6, []byte("q")), api.ENXIO)
		m.chip.Power()
		m = attached(t, m.chip)
		same(t, "lebs", looked(t, m)[6], leb{pages: text(many("p", used)...), closed: true})
		is(t, "Write", m.Write(6, nil), api.ENOSPC)
		is(t, "Wear", first(m.Wear()), false)
		is(t, "Change", m.Change(6, cells("r")), api.OK)
		is(t, "Closed", m.Closed(6), false)
		sound(t, "torn", m)
	}
}

func first[A, B any](a A, _ B) A { return a }

// TestPowerOff: a manager whose chip went off by others' hands is good for nothing, too, as soon as it is asked.
func TestPowerOff(t *testing.T) {
	m := attached(t, mixed(t, small))
	darkened(t, m.chip)
	silent(t, "off", m)
	m.chip.Power()
	silent(t, "on again", m)
	same(t, "attached", looked(t, attached(t, m.chip)), mixedLebs(t))
	// EROFS comes behind ENXIO.
	c := marked(mixed(t, small), 4, 5, 6)
	m = attached(t, c)
	darkened(t, c)
	silent(t, "spent and off", m)
}

// TestFormatCut: at each operation, torn in each way: each logical block is as it was, or gone; an older copy of one never comes back.
func TestFormatCut(t *testing.T) {
	c := mixed(t, small)
	// Older copies ahead of and behind the newest one.
	is(t, "Erase", c.Erase(4), api.OK)
	lay(t, c, 4, 4, header.Map{Leb: 1, Seq: 2, Pages: 1}, "older")
	is(t, "Erase", c.Erase(11), api.OK)
	lay(t, c, 11, 9, header.Map{Leb: 1, Seq: 3, Pages: 1}, "older")
	was := looked(t, attached(t, c.Clone()))
	same(t, "lebs", was, mixedLebs(t))
	for at := 1; at <= 2*small.Blocks; at++ {
		for torn := range 3 {
			what := fmt.Sprint("Format, cut at ", at, " torn ", torn)
			twin := c.Clone()
			arm(t, twin, api.Fault{At: at, Kind: api.Cut, Torn: torn})
			m, errno := Format(twin)
			is(t, what, errno, api.ENXIO)
			is(t, what, m, nil)
			twin.Power()
			interrupted(t, what, twin)
			again := twin.Clone()
			for n, got := range looked(t, attached(t, twin)) {
				if got != was[n] && got != (leb{}) {
					t.Errorf("%s: leb %d is %+v", what, n, got)
				}
			}
			m, errno = Format(again)
			is(t, what+": again", errno, api.OK)
			same(t, what+": again", looked(t, m), make(lebs, smallLebs))
			sound(t, what, m)
		}
	}
}

// TestFormatOrder: where no block is Spoilt, blocks are freed in order.
func TestFormatOrder(t *testing.T) {
	c := formatted(t, small).chip
	for n := range small.Blocks {
		twin := c.Clone()
		arm(t, twin, fails(2*n+1)...)
		m, errno := Format(twin)
		is(t, "Format", errno, api.OK)
		same(t, "bad", m.among(scan.Bad), []int{n})
	}
}
