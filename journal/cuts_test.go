package journal

import (
	"fmt"
	"testing"

	"pumice/api"
	"pumice/ebm"
	"pumice/nand"
)

// step: a call: Add of a leb; Append of a group; Sync, if there is neither.
type step struct {
	leb int
	g   []api.Node
}

// script: segments over which groups go on, some of them synced. In the logical blocks 6 and 9 something stands already.
func script() []step {
	return []step{
		{leb: 5},
		{g: []api.Node{put("a", "1")}},
		{g: []api.Node{put("b", "2"), gone("a")}},
		{},
		{g: one(63, 1)}, // to a page's last byte but one
		{g: one(150, 2)},
		{g: []api.Node{put("c", text(50, 1)), put("d", text(90, 2)), gone("e"), put("f", text(40, 3))}},
		{leb: 6},
		{g: greatest()},
		{},
		{},
		{g: one(30, 3)},
		{leb: 9},
		{leb: 3},
		{g: one(329, 4)},
		{g: many(16)},
		{g: one(47, 5)},
		{},
		{g: one(20, 6)},
	}
}

// epoch: of the script's journal; another one stands in the logical blocks 1 and 2, and 6 has a segment of an older one.
const (
	epoch      = 30
	otherEpoch = 31
	olderEpoch = 29
)

// peopled: a manager of a chip on which that stands, and what other journals are told.
func peopled(t *testing.T, g api.Geometry) (*ebm.Manager, []Group) {
	t.Helper()
	m := formatted(t, g)
	is(t, "Write", m.Write(0, []byte("master")), api.OK)
	is(t, "Write", m.Write(7, []byte(text(40, 7))), api.OK)
	for range m.Pages() {
		is(t, "Write", m.Write(9, []byte(text(60, 9))), api.OK)
	}
	older := paired(m, olderEpoch)
	older.add(t, 6)
	older.append(t, greatest()...)
	older.sync(t)
	other := paired(m, otherEpoch)
	for leb := 1; leb <= 2; leb++ {
		other.add(t, leb)
		other.append(t, one(100, leb)...)
		other.append(t, put("a", "other"), gone("b"))
	}
	other.sync(t)
	return m, other.m.groups
}

// run: a script that was done to a journal, until something went wrong.
type run struct {
	pair
	errno   api.Errno
	stopped step    // what said so
	maybe   []Group // the groups that were appended, with the one that was interrupted
}

// does: by a manager that is attached anew to a clone of a chip, with a plan.
func does(t *testing.T, c *nand.Chip, plan ...api.Fault) *run {
	t.Helper()
	m := attached(t, c.Clone())
	r := &run{pair: paired(m, epoch)}
	arm(t, m.Chip(), plan...)
	for _, s := range script() {
		if r.errno = r.do(t, s); r.errno != api.OK {
			r.stopped = s
			break
		}
		r.maybe = r.m.groups
	}
	return r
}

// do: one call, which the model takes part in where it is OK.
func (r *run) do(t *testing.T, s step) api.Errno {
	t.Helper()
	switch {
	case s.leb > 0:
		errno := r.j.Add(s.leb)
		if errno == api.OK {
			r.m.add(s.leb)
		}
		return errno
	case s.g != nil:
		return r.append(t, s.g)
	}
	errno := r.j.Sync()
	if errno == api.OK {
		r.m.sync()
	}
	return errno
}

func (r *run) append(t *testing.T, g []api.Node) api.Errno {
	t.Helper()
	then := r.m.clone()
	want, ok := then.append(g)
	is(t, "room", ok, true)
	is(t, "Fits", r.j.Fits(g), true)
	r.maybe = then.groups
	got, errno := r.j.Append(g)
	if errno == api.OK {
		lists(t, "places", got, want)
		*r.m = *then
	} else {
		is(t, "places beside an error", len(got), 0)
	}
	return errno
}

// ops: how many operations the script makes, if nothing is wrong.
func ops(t *testing.T, c *nand.Chip) int {
	t.Helper()
	was := attached(t, c.Clone()).Chip().Ops()
	r := does(t, c)
	is(t, "the script", r.errno, api.OK)
	r.m.heldByAll(t, "the script", r.j)
	n := r.j.m.Chip().Ops() - was
	if n < 40 {
		t.Fatalf("%d operations", n)
	}
	return n
}

// lost: a journal within whose call the power went off.
func (r *run) lost(t *testing.T, what string) {
	t.Helper()
	is(t, what, r.errno, api.ENXIO)
	is(t, what+": On", r.j.m.Chip().On(), false)
	lists(t, what+": Segments", r.j.Segments(), r.m.lebs())
	_, errno := r.j.Append([]api.Node{put("x", "")})
	is(t, what+": Append", errno, api.ENXIO)
	is(t, what+": Add", r.j.Add(4), api.ENXIO)
	if r.stopped.leb == 0 && r.stopped.g == nil {
		is(t, what+": Sync", r.j.Sync(), api.ENXIO)
	}
	lists(t, what+": Segments", r.j.Segments(), r.m.lebs())
	_, _, errno = Replay(r.j.m, epoch)
	is(t, what+": Replay", errno, api.ENXIO)
}

// kept: what a manager tells behind a fault: the first of the groups, at least those that were synced, in the first of the segments.
func (r *run) kept(t *testing.T, what string, m *ebm.Manager) []Group {
	t.Helper()
	got, lebs, errno := Replay(m, epoch)
	is(t, what+": Replay", errno, api.OK)
	if len(got) < r.m.synced || len(got) > len(r.maybe) {
		t.Errorf("%s: %d groups, of %d that were appended and %d that were synced", what, len(got), len(r.maybe), r.m.synced)
		return got
	}
	alike(t, what, got, r.maybe[:len(got)])
	loads(t, what, m, got)
	all := r.m.lebs()
	if len(lebs) < len(all)-1 || len(lebs) > len(all) {
		t.Errorf("%s: the segments %v of %v", what, lebs, all)
		return got
	}
	lists(t, what+": the segments that are told", lebs, all[:len(lebs)])
	return got
}

// recovered: the chip is on again and attached: what must be told is, others have what they had, and a journal of another epoch goes on; how many groups are told.
func (r *run) recovered(t *testing.T, what string, other []Group, was string) int {
	t.Helper()
	c := r.j.m.Chip()
	c.Power()
	arm(t, c)
	m := attached(t, c)
	told := r.kept(t, what, m)
	alike(t, what+": another epoch", replays(t, what, m, otherEpoch, 1, 2), other)
	is(t, what+": others", others(t, m, 3, 5, 6, 9), was)
	next := paired(m, epoch+2)
	for _, leb := range []int{8, 10} {
		next.add(t, leb)
		next.append(t, one(100, leb)...)
		next.append(t, put("a", "next"), gone("b"))
	}
	next.sync(t)
	next.m.heldByAll(t, what+": the next epoch", next.j)
	alike(t, what+", the next one begun", r.kept(t, what, attached(t, c)), told)
	is(t, what+": Wrong", c.Wrong(), 0)
	return len(told)
}

// TestCuts: the power goes off at each operation of Add, Append and Sync, torn in each way.
func TestCuts(t *testing.T) {
	m, other := peopled(t, small)
	was := others(t, m, 3, 5, 6, 9)
	n := ops(t, m.Chip())
	interrupted := map[string]int{}
	for at := 1; at <= n; at++ {
		for torn := range 3 {
			what := fmt.Sprintf("cut at %d of %d, torn %d", at, n, torn)
			r := does(t, m.Chip(), api.Fault{At: at, Kind: api.Cut, Torn: torn})
			r.lost(t, what)
			told := r.recovered(t, what, other, was)
			switch {
			case r.stopped.leb > 0:
				interrupted["Add"]++
			case r.stopped.g == nil:
				interrupted["Sync"]++
			case told == len(r.maybe):
				interrupted["Append, done"]++
			default:
				interrupted["Append"]++
			}
			if t.Failed() {
				t.FailNow()
			}
		}
	}
	for _, call := range []string{"Add", "Sync", "Append"} {
		if interrupted[call] < 3 {
			t.Errorf("%d cuts within %s: %v", interrupted[call], call, interrupted)
		}
	}
}

// TestCutTells: what a cut leaves of a group of two nodes, whose frames go over pages' ends; behind a group that was only kept.
func TestCutTells(t *testing.T) {
	for _, c := range []struct{ at, torn, groups int }{
		{1, 0, 1},
		{1, 1, 1},
		{1, 2, 2}, // the group that was kept is whole
		{2, 0, 2},
		{2, 1, 2},
		{2, 2, 2}, // the first node alone
		{3, 0, 2},
		{3, 1, 2},
		{3, 2, 3},
	} {
		m := formatted(t, small)
		p := paired(m, 1)
		p.add(t, 5)
		p.append(t, put("a", "1"))
		p.sync(t)
		p.append(t, one(10, 1)...)
		arm(t, m.Chip(), api.Fault{At: c.at, Kind: api.Cut, Torn: c.torn})
		// from 74 on: up to 138 in the third page, then into the fourth one
		g := []api.Node{put("b", text(54, 1)), put("c", text(90, 2))}
		what := fmt.Sprint("cut at ", c.at, " torn ", c.torn)
		_, errno := p.j.Append(g)
		p.m.append(g)
		if c.at < 3 {
			is(t, what+": Append", errno, api.ENXIO)
		} else {
			is(t, what+": Append", errno, api.OK)
			is(t, what+": Sync", p.j.Sync(), api.ENXIO)
		}
		m.Chip().Power()
		alike(t, what, replays(t, what, attached(t, m.Chip()), 1, 5), p.m.groups[:c.groups])
	}
}

// TestCutsWithinAttach: the power goes off again, at each operation of the Attach that follows, some times over: what is told then is what would have been told.
func TestCutsWithinAttach(t *testing.T) {
	m, other := peopled(t, small)
	was := others(t, m, 3, 5, 6, 9)
	n, again := ops(t, m.Chip()), 0
	for i := range 3 * n {
		at, torn := 1+i/3, i%3
		r := does(t, m.Chip(), api.Fault{At: at, Kind: api.Cut, Torn: torn})
		is(t, "the script", r.errno, api.ENXIO)
		c := r.j.m.Chip()
		c.Power()
		want := r.kept(t, "attached", attached(t, c.Clone()))
		for next := 1; next < 6; next++ {
			arm(t, c, api.Fault{At: next, Kind: api.Cut, Torn: (torn + next) % 3})
			if _, errno := ebm.Attach(c); errno == api.OK {
				break
			}
			again++
			c.Power()
			what := fmt.Sprintf("cut at %d of %d, then at %d of Attach", at, n, next)
			alike(t, what, r.kept(t, what, attached(t, c.Clone())), want)
		}
		r.recovered(t, fmt.Sprintf("cut at %d of %d, and within Attach", at, n), other, was)
	}
	if again < 10 {
		t.Errorf("%d cuts within Attach", again)
	}
}

// TestFails: the chip fails at each operation, programs and erases, also twice: nobody sees it.
func TestFails(t *testing.T) {
	m, other := peopled(t, small)
	was := others(t, m, 3, 5, 6, 9)
	n := ops(t, m.Chip())
	for at := 1; at <= n; at++ {
		for _, next := range []int{0, 1, 2, 5} {
			what := fmt.Sprintf("fails at %d of %d, and %d more", at, n, next)
			plan := []api.Fault{{At: at, Kind: api.Fail}}
			if next > 0 {
				plan = append(plan, api.Fault{At: at + next, Kind: api.Fail})
			}
			r := does(t, m.Chip(), plan...)
			is(t, what, r.errno, api.OK)
			r.m.heldByAll(t, what, r.j)
			alike(t, what+": another epoch", replays(t, what, r.j.m, otherEpoch, 1, 2), other)
			is(t, what+": others", others(t, r.j.m, 3, 5, 6, 9), was)
		}
	}
}

// TestFailsAndCuts: the power goes off in what follows a failure.
func TestFailsAndCuts(t *testing.T) {
	m, other := peopled(t, small)
	was := others(t, m, 3, 5, 6, 9)
	n, cuts := ops(t, m.Chip()), 0
	for at := 1; at <= n; at += 2 {
		for next := 1; next < 12; next++ {
			what := fmt.Sprintf("fails at %d of %d, cut %d behind", at, n, next)
			r := does(t, m.Chip(), api.Fault{At: at, Kind: api.Fail}, api.Fault{At: at + next, Kind: api.Cut, Torn: next % 3})
			if r.errno == api.OK {
				continue // it was done ahead of the cut
			}
			cuts++
			r.lost(t, what)
			r.recovered(t, what, other, was)
		}
	}
	if cuts < 100 {
		t.Errorf("%d cuts", cuts)
	}
}

// TestSpentWithin: the chip becomes spent within a call: it is done, or says EROFS; what was told before is told.
func TestSpentWithin(t *testing.T) {
	g := small
	g.Reserve = 0
	m, other := peopled(t, g)
	n := ops(t, m.Chip())
	refused := map[string]int{}
	for at := 1; at <= n; at++ {
		for fails := 1; fails < 4; fails++ {
			what := fmt.Sprintf("%d fail from %d of %d on", fails, at, n)
			var plan []api.Fault
			for i := range fails {
				plan = append(plan, api.Fault{At: at + i, Kind: api.Fail})
			}
			r := does(t, m.Chip(), plan...)
			is(t, what+": Spent", r.j.m.Spent(), true)
			if r.errno != api.OK {
				is(t, what, r.errno, api.EROFS)
				refused[fmt.Sprint(r.stopped.leb > 0, r.stopped.g != nil)]++
			}
			r.maybe = r.m.groups // what was refused is never told
			lists(t, what+": Segments", r.j.Segments(), r.m.lebs())
			for _, m := range []*ebm.Manager{r.j.m, attached(t, r.j.m.Chip())} {
				r.kept(t, what, m)
				alike(t, what+": another epoch", replays(t, what, m, otherEpoch, 1, 2), other)
			}
			_, errno := r.j.Append(many(1))
			is(t, what+": Append", errno, api.EROFS)
			is(t, what+": Add", r.j.Add(4), api.EROFS)
			is(t, what+": Wrong", r.j.m.Chip().Wrong(), 0)
		}
	}
	if len(refused) < 3 {
		t.Errorf("refused: %v", refused)
	}
}

// TestSpentByAdd: the block of the logical block that is to be the next segment fails to be erased, and none is in reserve: no head can be appended any more, so it is no segment.
func TestSpentByAdd(t *testing.T) {
	g := small
	g.Reserve = 0
	m := formatted(t, g)
	p := paired(m, 1)
	is(t, "Write", m.Write(6, []byte("x")), api.OK)
	p.add(t, 5)
	p.append(t, put("a", "1"))
	p.sync(t)
	arm(t, m.Chip(), api.Fault{At: 1, Kind: api.Fail})
	is(t, "Add", p.j.Add(6), api.EROFS)
	is(t, "Spent", m.Spent(), true)
	p.m.heldByAll(t, "spent", p.j)
	_, errno := p.j.Append(many(1))
	is(t, "Append", errno, api.EROFS)
	is(t, "Sync", p.j.Sync(), api.OK)
}
