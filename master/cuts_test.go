package master

import (
	"fmt"
	"testing"

	"pumice/api"
	"pumice/ebm"
	"pumice/nand"
)

// deed: what stands on a chip, and a call that changes it.
type deed struct {
	name   string
	before *model // nil: no master
	chip   *nand.Chip
	create bool // Create, else Save behind an Open
	r      Record
}

// do: the call, by a manager that is attached anew to a clone of the chip; the master that it was asked of, or that it made.
func (d deed) do(t *testing.T, plan ...api.Fault) (*ebm.Manager, *Master, api.Errno) {
	t.Helper()
	c := d.chip.Clone()
	m := attached(t, c)
	if d.create {
		arm(t, c, plan...)
		x, errno := Create(m, d.r)
		return m, x, errno
	}
	x := opened(t, m)
	arm(t, c, plan...)
	errno := x.Save(d.r)
	return m, x, errno
}

// after: the model behind the call.
func (d deed) after() model {
	if d.create || d.before == nil {
		return begun(d.chip.Geometry(), d.r)
	}
	return d.before.saved(d.r)
}

// ops: how many operations the call makes, if nothing is wrong.
func (d deed) ops(t *testing.T) int {
	t.Helper()
	m, x, errno := d.do(t)
	is(t, d.name, errno, api.OK)
	d.after().heldByAll(t, d.name, x)
	return m.Chip().Ops() - d.chip.Ops()
}

// peopled: a manager of a chip on which other logical blocks have pages.
func peopled(t *testing.T, g api.Geometry) *ebm.Manager {
	t.Helper()
	m := formatted(t, g)
	for leb := 1; leb < m.Lebs(); leb++ {
		for i := range leb % 3 {
			is(t, "Write", m.Write(leb, []byte(text(leb+i, leb))), api.OK)
		}
	}
	return m
}

// full: a master with so many records of a Text of so many bytes, and its model.
func full(t *testing.T, g api.Geometry, records, size int) (*ebm.Manager, *model) {
	t.Helper()
	m := peopled(t, g)
	r := Record{1, text(size, 0)}
	x, want := created(t, m, r), begun(g, r)
	for i := 1; i < records; i++ {
		r := Record{uint64(i), text(size, i)}
		is(t, "Save", x.Save(r), api.OK)
		want = want.saved(r)
	}
	want.held(t, "full", x)
	is(t, "records", x.Saves(), records)
	return m, &want
}

// deeds: on chips of a geometry whose logical blocks have 30 pages of 64 bytes.
func deeds(t *testing.T, g api.Geometry) []deed {
	t.Helper()
	short, long := Record{77, "new"}, Record{78, text(512, 5)}
	empty := peopled(t, g).Chip()
	m := peopled(t, g)
	laid(t, m, []byte("other"), make([]byte, 300))
	taken := m.Chip()
	m, some := full(t, g, 4, 100)
	master := m.Chip()
	m, all := full(t, g, 30, 10)
	crowded := m.Chip()
	m, shut := full(t, g, 3, 20)
	torn(t, m.Chip())
	closed := m.Chip()
	shut.broken = true
	m, spoilt := full(t, g, 3, 20)
	is(t, "Write", m.Write(0, recordOf(long)[:64]), api.OK)
	broken := m.Chip()
	spoilt.broken = true
	return []deed{
		{"Create over nothing", nil, empty, true, short},
		{"Create of much over nothing", nil, empty, true, long},
		{"Create over other bytes", nil, taken, true, short},
		{"Create over a master", some, master, true, long},
		{"Create over a full one", all, crowded, true, short},
		{"Create over a closed one", shut, closed, true, long},
		{"Save", some, master, false, short},
		{"Save of much", some, master, false, long},
		{"Save of pages to the last byte", some, master, false, Record{79, text(3*64-15, 0)}},
		{"Save of pages but for a byte", some, master, false, Record{79, text(3*64-16, 0)}},
		{"Save without room", all, crowded, false, short},
		{"Save of much without room", all, crowded, false, long},
		{"Save of what is closed", shut, closed, false, long},
		{"Save of what is broken", spoilt, broken, false, short},
	}
}

// cutOff: a call within which the power went off: what it was asked of is as it was, and says ENXIO.
func (d deed) cutOff(t *testing.T, what string, m *ebm.Manager, x *Master, errno api.Errno) {
	t.Helper()
	is(t, what, errno, api.ENXIO)
	is(t, what+": On", m.Chip().On(), false)
	if d.create {
		is(t, what, x, nil)
	}
	for range 2 {
		_, errno = Open(m)
		is(t, what+": Open", errno, api.ENXIO)
		_, errno = Create(m, d.r)
		is(t, what+": Create", errno, api.ENXIO)
		if x != nil {
			is(t, what+": Save", x.Save(d.r), api.ENXIO)
			tells(t, what, x, d.before.newest, d.before.saves)
		}
		m.Chip().Power()
	}
}

// recovered: behind Attach the record ahead of the call is told, or the new one: was it the new one?
func (d deed) recovered(t *testing.T, what string, c *nand.Chip) bool {
	t.Helper()
	m := attached(t, c)
	is(t, what+": others", others(t, m), others(t, attached(t, d.chip.Clone())))
	after := d.after()
	x, errno := Open(m)
	done := x.Record() == after.newest
	switch {
	case done:
		is(t, what+": Open", errno, api.OK)
		after.held(t, what, x)
	case d.before == nil:
		is(t, what+": Open", errno, api.EUCLEAN)
		x = created(t, m, d.r)
	default:
		is(t, what+": Open", errno, api.OK)
		tells(t, what, x, d.before.newest, d.before.saves)
	}
	d.goesOn(t, what, x)
	return done
}

// goesOn: what was opened takes further records.
func (d deed) goesOn(t *testing.T, what string, x *Master) {
	t.Helper()
	for i, size := range []int{3, 512, 60} {
		r := Record{uint64(1000 + i), text(size, i)}
		is(t, what+": Save", x.Save(r), api.OK)
		tells(t, what+": Save", x, r, x.Saves())
		tells(t, what+": opened", opened(t, attached(t, x.m.Chip())), r, x.Saves())
	}
	is(t, what+": Wrong", x.m.Chip().Wrong(), 0)
}

// TestCuts: the power goes off at each operation of each call, torn in each way.
func TestCuts(t *testing.T) {
	for _, d := range deeds(t, small) {
		n, done := d.ops(t), 0
		for at := 1; at <= n; at++ {
			for torn := range 3 {
				what := fmt.Sprintf("%s, cut at %d of %d, torn %d", d.name, at, n, torn)
				m, x, errno := d.do(t, api.Fault{At: at, Kind: api.Cut, Torn: torn})
				d.cutOff(t, what, m, x, errno)
				if d.recovered(t, what, m.Chip()) {
					done++
				} else if at == n && torn == 2 {
					t.Errorf("%s: it was not done", what)
				}
			}
		}
		if done == 0 || done == 3*n {
			t.Errorf("%s: done behind %d of %d cuts", d.name, done, 3*n)
		}
	}
}

// TestCutsWithinAttach: the power goes off again, at each operation of the Attach that follows, some times over: what is told then is what would have been told.
func TestCutsWithinAttach(t *testing.T) {
	again := 0
	for _, d := range deeds(t, small) {
		n := d.ops(t)
		for at := 1; at <= n; at++ {
			torn := at % 3
			m, _, errno := d.do(t, api.Fault{At: at, Kind: api.Cut, Torn: torn})
			is(t, d.name, errno, api.ENXIO)
			c := m.Chip()
			c.Power()
			want := opens(t, c.Clone())
			for next := 1; next < 6; next++ {
				arm(t, c, api.Fault{At: next, Kind: api.Cut, Torn: (torn + next) % 3})
				if _, errno := ebm.Attach(c); errno == api.OK {
					break
				}
				again++
				c.Power()
				is(t, fmt.Sprintf("%s, cut at %d of %d, then at %d of Attach", d.name, at, n, next), opens(t, c.Clone()), want)
			}
			arm(t, c)
			d.recovered(t, fmt.Sprintf("%s, cut at %d of %d, and within Attach", d.name, at, n), c)
		}
	}
	if again < 20 {
		t.Errorf("%d cuts within Attach", again)
	}
}

// opens: what Open tells of a chip.
func opens(t *testing.T, c *nand.Chip) string {
	t.Helper()
	x, errno := Open(attached(t, c))
	return fmt.Sprintf("%d %s %d", errno, shown(x.Record()), x.Saves())
}

// TestFails: the chip fails at each operation, also twice: nobody sees it.
func TestFails(t *testing.T) {
	for _, d := range deeds(t, small) {
		n := d.ops(t)
		for at := 1; at <= n; at++ {
			for next := range 4 {
				what := fmt.Sprintf("%s, fails at %d of %d, and %d more", d.name, at, n, next)
				plan := []api.Fault{{At: at, Kind: api.Fail}}
				if next > 0 {
					plan = append(plan, api.Fault{At: at + next, Kind: api.Fail})
				}
				_, x, errno := d.do(t, plan...)
				is(t, what, errno, api.OK)
				d.after().heldByAll(t, what, x)
				d.goesOn(t, what, x)
			}
		}
	}
}

// TestFailsAndCuts: the power goes off in what follows a failure.
func TestFailsAndCuts(t *testing.T) {
	cuts := 0
	for _, d := range deeds(t, small) {
		n := d.ops(t)
		for at := 1; at <= n; at++ {
			for next := 1; next < 6; next++ {
				what := fmt.Sprintf("%s, fails at %d of %d, cut %d behind", d.name, at, n, next)
				m, x, errno := d.do(t, api.Fault{At: at, Kind: api.Fail}, api.Fault{At: at + next, Kind: api.Cut, Torn: next % 3})
				if errno == api.OK {
					continue
				}
				cuts++
				d.cutOff(t, what, m, x, errno)
				arm(t, m.Chip())
				d.recovered(t, what, m.Chip())
			}
		}
	}
	if cuts < 100 {
		t.Errorf("%d cuts", cuts)
	}
}

// TestSpentWithin: the chip becomes spent within a call: it is done, or says EROFS, and all is as it was.
func TestSpentWithin(t *testing.T) {
	done, refused := 0, 0
	g := api.Geometry{Blocks: 16, Pages: 32, Page: 64}
	for _, d := range deeds(t, g) {
		n := d.ops(t)
		for at := 1; at <= n; at++ {
			for fails := 1; fails < 4; fails++ {
				what := fmt.Sprintf("%s, %d fail from %d of %d on", d.name, fails, at, n)
				var plan []api.Fault
				for i := range fails {
					plan = append(plan, api.Fault{At: at + i, Kind: api.Fail})
				}
				m, x, errno := d.do(t, plan...)
				is(t, what+": Spent", m.Spent(), true)
				if errno == api.OK {
					done++
					d.after().heldByAll(t, what, x)
				} else {
					refused++
					d.refused(t, what, m, x, errno)
				}
				_, errno = Create(m, d.r)
				is(t, what+": Create", errno, api.EROFS)
				if x != nil {
					is(t, what+": Save", x.Save(d.r), api.EROFS)
				}
				is(t, what+": Wrong", m.Chip().Wrong(), 0)
			}
		}
	}
	if done == 0 || refused == 0 {
		t.Errorf("%d were done, %d refused", done, refused)
	}
}

// refused: a call that said EROFS.
func (d deed) refused(t *testing.T, what string, m *ebm.Manager, x *Master, errno api.Errno) {
	t.Helper()
	is(t, what, errno, api.EROFS)
	if d.create {
		is(t, what, x, nil)
	}
	for _, m := range []*ebm.Manager{m, attached(t, m.Chip())} {
		y, errno := Open(m)
		if d.before == nil {
			is(t, what+": Open", errno, api.EUCLEAN)
			continue
		}
		is(t, what+": Open", errno, api.OK)
		tells(t, what+": Open", y, d.before.newest, d.before.saves)
	}
	if x != nil {
		tells(t, what, x, d.before.newest, d.before.saves)
	}
}
