package index

import (
	"fmt"
	"slices"
	"testing"

	"pumice/api"
	"pumice/ebm"
	"pumice/image"
	"pumice/nand"
)

// deed: an index that stands on a chip, and what is done to it ahead of a Commit into some logical blocks.
type deed struct {
	name string
	keys []string // what stands there; none: the zero root
	do   func(t *testing.T, x *Index)
	lebs []int
	want []image.Slot // what it has then
}

func deeds() []deed {
	keys := numbered(150)
	changed := slots(keys...)
	changed[44].At = image.Place{}
	return []deed{
		{"the first", nil, func(t *testing.T, x *Index) {
			for _, key := range keys {
				is(t, "Put", x.Put(key, value(key)), api.OK)
			}
		}, []int{5, 1, 2, 3}, slots(keys...)},
		{"one leaf", keys, func(t *testing.T, x *Index) {
			is(t, "Put", x.Put(keys[44], image.Place{}), api.OK)
		}, []int{6, 2}, changed},
		{"all", keys, func(t *testing.T, x *Index) {
			is(t, "Touch", x.Touch(), api.OK)
		}, []int{3, 0, 1, 2}, slots(keys...)},
		{"few are left", keys, func(t *testing.T, x *Index) {
			for _, key := range keys[5:] {
				is(t, "Delete", first(x.Delete(key)), true)
			}
		}, []int{4}, slots(keys[:5]...)},
	}
}

// chip: on which the index stands, from the logical block 8 on, and others have what the Commit puts out; its root.
func (d deed) chip(t *testing.T, g api.Geometry) (*nand.Chip, image.Place) {
	t.Helper()
	m := formatted(t, g)
	for _, leb := range d.lebs {
		is(t, "Write", m.Write(leb, []byte("other")), api.OK)
	}
	root := committed(t, filled(t, m, d.keys), 8)
	return m.Chip(), root
}

// begun: the index on a clone of a chip, with what is done ahead of the Commit.
func (d deed) begun(t *testing.T, c *nand.Chip, root image.Place) *Index {
	t.Helper()
	x := opened(t, attached(t, c.Clone()), root)
	d.do(t, x)
	return x
}

// ops: how many operations the Commit makes, if nothing is wrong, and its root.
func (d deed) ops(t *testing.T, c *nand.Chip, root image.Place) (int, image.Place) {
	t.Helper()
	x := d.begun(t, c, root)
	before := x.m.Chip().Ops()
	at, _, errno := x.Commit(d.lebs)
	is(t, d.name+": Commit", errno, api.OK)
	holds(t, d.name, opened(t, attached(t, x.m.Chip()), at), d.want)
	return x.m.Chip().Ops() - before, at
}

// TestCuts: the power goes off at each operation of Commit, torn in each way: what stands at the old root is as it was, and the same can be done anew.
func TestCuts(t *testing.T) {
	for _, d := range deeds() {
		c, root := d.chip(t, small)
		n, _ := d.ops(t, c, root)
		if n < 3 {
			t.Errorf("%s: %d operations", d.name, n)
		}
		for at := 1; at <= n; at++ {
			for torn := range 3 {
				what := fmt.Sprintf("%s, cut at %d of %d, torn %d", d.name, at, n, torn)
				x := d.begun(t, c, root)
				arm(t, x.m.Chip(), api.Fault{At: at, Kind: api.Cut, Torn: torn})
				cutOff(t, what, x, d, root)
			}
		}
	}
}

// cutOff: a Commit within which the power goes off, and what is there when it is on again.
func cutOff(t *testing.T, what string, x *Index, d deed, root image.Place) {
	t.Helper()
	at, n, errno := x.Commit(d.lebs)
	is(t, what+": Commit", errno, api.ENXIO)
	is(t, what+": Commit", at, image.Place{})
	is(t, what+": needed", n, 0)
	is(t, what+": Root", x.Root(), root)
	is(t, what+": Dirty", x.Dirty(), true)
	c := x.m.Chip()
	is(t, what+": On", c.On(), false)
	c.Power()
	_, _, errno = x.Commit(d.lebs)
	is(t, what+": Commit without Attach", errno, api.ENXIO)
	is(t, what+": Touch without Attach", x.Touch(), api.ENXIO)
	m := attached(t, c)
	y := opened(t, m, root)
	holds(t, what, y, slots(d.keys...))
	alike(t, what, standing(t, m, root).slots, slots(d.keys...))
	d.do(t, y)
	second, _, errno := y.Commit(d.lebs)
	is(t, what+": Commit anew", errno, api.OK)
	holds(t, what+", done anew", opened(t, attached(t, c), second), d.want)
	holds(t, what+", at the old root", opened(t, m, root), slots(d.keys...))
	is(t, what+": Wrong", c.Wrong(), 0)
}

// TestFails: the chip fails within Commit: nobody sees it; nor that the power goes off behind it.
func TestFails(t *testing.T) {
	for _, d := range deeds() {
		c, root := d.chip(t, small)
		n, want := d.ops(t, c, root)
		for at := 1; at <= n; at++ {
			for next := range 2 {
				what := fmt.Sprintf("%s, fails at %d of %d, and %d more", d.name, at, n, next)
				x := d.begun(t, c, root)
				plan := []api.Fault{{At: at, Kind: api.Fail}}
				if next > 0 {
					plan = append(plan, api.Fault{At: at + next, Kind: api.Fail})
				}
				arm(t, x.m.Chip(), plan...)
				got, _, errno := x.Commit(d.lebs)
				is(t, what, errno, api.OK)
				is(t, what, got, want)
				is(t, what+": Dirty", x.Dirty(), false)
				y := attached(t, x.m.Chip())
				holds(t, what, opened(t, y, got), d.want)
				holds(t, what+", at the old root", opened(t, y, root), slots(d.keys...))
				is(t, what+": Wrong", y.Chip().Wrong(), 0)
			}
			x := d.begun(t, c, root)
			arm(t, x.m.Chip(), api.Fault{At: at, Kind: api.Fail}, api.Fault{At: at + 1, Kind: api.Cut, Torn: 1})
			if at < n {
				cutOff(t, fmt.Sprintf("%s, fails at %d and is cut", d.name, at), x, d, root)
			}
		}
	}
}

// TestSpentWithin: the chip becomes spent within Commit: it is done, or says EROFS; what stands at the old root is as it was, and what is kept, too.
func TestSpentWithin(t *testing.T) {
	refusals := 0
	for _, d := range deeds() {
		c, root := d.chip(t, api.Geometry{Blocks: 16, Pages: 16, Page: 128})
		n, _ := d.ops(t, c, root)
		for at := 1; at <= n; at++ {
			what := fmt.Sprintf("%s, spent at %d of %d", d.name, at, n)
			x := d.begun(t, c, root)
			arm(t, x.m.Chip(), api.Fault{At: at, Kind: api.Fail})
			got, _, errno := x.Commit(d.lebs)
			is(t, what+": Spent", x.m.Spent(), true)
			holds(t, what, x, d.want)
			holds(t, what+", at the old root", opened(t, x.m, root), slots(d.keys...))
			holds(t, what+", at the old root", opened(t, attached(t, x.m.Chip()), root), slots(d.keys...))
			if errno == api.OK {
				holds(t, what+", done", opened(t, x.m, got), d.want)
				continue
			}
			refusals++
			is(t, what, errno, api.EROFS)
			is(t, what, got, image.Place{})
			is(t, what+": Root", x.Root(), root)
			is(t, what+": Dirty", x.Dirty(), true)
			_, _, errno = x.Commit(d.lebs)
			is(t, what+": Commit again", errno, api.EROFS)
		}
	}
	if refusals == 0 {
		t.Error("no Commit said EROFS")
	}
}

// TestSpent: a manager that only reads: all but Commit is as ever.
func TestSpent(t *testing.T) {
	m := formatted(t, small)
	keys := numbered(60)
	root := committed(t, filled(t, m, keys), 8)
	spend(t, m)
	x := opened(t, m, root)
	taken := standing(t, m, root).lebs
	lebsAre(t, "spent", x, taken...)
	holds(t, "spent", x, slots(keys...))
	for _, y := range []*Index{x, New(m), opened(t, m, root)} {
		for _, lebs := range [][]int{nil, {1}, {1, 2, 3, 4}} {
			refused(t, "Commit of what is clean", y, lebs, api.EROFS)
		}
		for _, lebs := range [][]int{{-1}, {12}, {2, 2}} {
			refused(t, "Commit of what can't be", y, lebs, api.EINVAL)
		}
	}
	refused(t, "Commit to one of Lebs", x, taken[:1], api.EINVAL)
	is(t, "Put", x.Put("x", value("x")), api.OK)
	is(t, "Delete", first(x.Delete(keys[7])), true)
	want := without(with(slots(keys...), slots("x")[0]), keys[7])
	holds(t, "spent", x, want)
	refused(t, "Commit of what is dirty", x, []int{1, 2}, api.EROFS)
	refused(t, "Commit to nothing", x, nil, api.EROFS)
	is(t, "Touch", x.Touch(), api.OK)
	holds(t, "spent", x, want)
	refused(t, "Commit of what was touched", x, []int{1, 2, 3, 4}, api.EROFS)
	y := New(attached(t, m.Chip()))
	refused(t, "Commit of another manager", y, nil, api.EROFS)
	darken(t, m.Chip())
	_, _, errno := x.Commit([]int{1})
	is(t, "Commit with the power off", errno, api.ENXIO)
}

// TestMoved: wear steps, other logical blocks that come and go, another Attach: what was committed is opened at its root.
func TestMoved(t *testing.T) {
	m := formatted(t, small)
	keys := numbered(80)
	root := committed(t, filled(t, m, keys), 8)
	lebs := standing(t, m, root).lebs
	moved := 0
	for i := range 200 {
		for leb := range 6 {
			is(t, "Change", m.Change(leb, [][]byte{{byte(i)}}), api.OK)
		}
		if ok, errno := m.Wear(); ok {
			is(t, "Wear", errno, api.OK)
			moved++
		}
		if i%50 == 49 {
			m = attached(t, m.Chip())
			x := opened(t, m, root)
			holds(t, "moved", x, slots(keys...))
			lebsAre(t, "moved", x, lebs...)
		}
	}
	if moved == 0 {
		t.Error("nothing was moved")
	}
}

// TestTorn: a log that a cut broke behind its frames has them yet.
func TestTorn(t *testing.T) {
	m := formatted(t, small)
	root := committed(t, filled(t, m, []string{"a", "b"}), 4)
	arm(t, m.Chip(), api.Fault{At: 1, Kind: api.Cut, Torn: 1})
	is(t, "Write", m.Write(4, []byte("x")), api.ENXIO)
	m.Chip().Power()
	m = attached(t, m.Chip())
	is(t, "Closed", m.Closed(4), true)
	x := opened(t, m, root)
	holds(t, "torn", x, slots("a", "b"))
	is(t, "Touch", x.Touch(), api.OK)
	at, n, errno := x.Commit([]int{4})
	is(t, "Commit to what was closed", errno, api.OK)
	is(t, "Commit to what was closed", n, 1)
	holds(t, "torn", opened(t, m, at), slots("a", "b"))
}

// TestLogOfOthers: what others wrote into a logical block is put out, whatever it is.
func TestLogOfOthers(t *testing.T) {
	for name, spoil := range map[string]func(m *ebm.Manager) api.Errno{
		"pages":    func(m *ebm.Manager) api.Errno { return m.Write(3, []byte("no frame")) },
		"no pages": func(m *ebm.Manager) api.Errno { return m.Change(3, nil) },
		"all pages": func(m *ebm.Manager) api.Errno {
			return m.Change(3, slices.Repeat([][]byte{[]byte("no frame")}, m.Pages()))
		},
	} {
		m := formatted(t, small)
		is(t, name, spoil(m), api.OK)
		x := filled(t, m, []string{"a", "b"})
		at, n, errno := x.Commit([]int{3})
		is(t, name, errno, api.OK)
		is(t, name, n, 1)
		is(t, name, at.Pos, 0)
		holds(t, name, opened(t, m, at), slots("a", "b"))
	}
}
