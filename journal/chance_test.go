package journal

import (
	"fmt"
	"math/rand"
	"slices"
	"testing"

	"pumice/api"
	"pumice/ebm"
)

// player: two journals at once, driven by chance beside their models; whenever one is full, or the power was off, another epoch begins.
type player struct {
	r     *rand.Rand
	m     *ebm.Manager
	both  [2]pair
	epoch uint64
	cuts  int
	fails int
}

// begin: a journal of the next epoch.
func (p *player) begin(n int) {
	p.epoch++
	p.both[n] = paired(p.m, p.epoch)
}

// free: a logical block that is neither journal's segment; 0: there is none.
func (p *player) free() int {
	taken := append(p.both[0].m.lebs(), p.both[1].m.lebs()...)
	for _, leb := range p.r.Perm(p.m.Lebs()) {
		if leb > 0 && !slices.Contains(taken, leb) {
			return leb
		}
	}
	return 0
}

// play: one call, perhaps with a fault in it.
func (p *player) play(t *testing.T, what string) {
	t.Helper()
	n := p.r.Intn(2)
	chip := p.m.Chip()
	switch k := p.r.Intn(30); {
	case k < 4:
		arm(t, chip, api.Fault{At: 1 + p.r.Intn(4), Kind: api.Cut, Torn: p.r.Intn(3)})
	case k == 4 && p.m.Spare() > 0:
		arm(t, chip, api.Fault{At: 1 + p.r.Intn(4), Kind: api.Fail})
		p.fails++
	}
	x := &run{pair: p.both[n]}
	x.maybe = x.m.groups
	x.errno = p.call(t, x)
	switch x.errno {
	case api.OK:
	case api.ENXIO:
		p.recover(t, what, n, x)
	case api.ENOSPC:
		p.next(t, n)
	default:
		t.Errorf("%s: %d", what, x.errno)
	}
	arm(t, p.m.Chip())
	for _, q := range p.both {
		q.m.held(t, what, q.j)
	}
}

// call: of one of the journals.
func (p *player) call(t *testing.T, x *run) api.Errno {
	t.Helper()
	switch k := p.r.Intn(20); {
	case k < 3:
		return x.do(t, step{})
	case k == 3:
		if leb := p.free(); leb > 0 {
			return x.do(t, step{leb: leb})
		}
	case k == 4:
		_, errno := p.m.Wear()
		return errno
	}
	g := anyGroup(p.r)
	if _, ok := x.m.clone().append(g); !ok {
		_, errno := x.j.Append(g)
		return errno
	}
	return x.append(t, g)
}

// next: a journal that has no room goes on in another segment, or in another epoch.
func (p *player) next(t *testing.T, n int) {
	t.Helper()
	arm(t, p.m.Chip())
	q := p.both[n]
	if leb := p.free(); leb > 0 && len(q.m.segments) < 4 {
		q.add(t, leb)
		return
	}
	q.sync(t)
	q.m.heldByAll(t, "full", q.j)
	p.begin(n)
}

// recover: behind a cut within a call of one of them.
func (p *player) recover(t *testing.T, what string, n int, x *run) {
	t.Helper()
	c := p.m.Chip()
	is(t, what+": On", c.On(), false)
	p.cuts++
	c.Power()
	arm(t, c)
	p.m = attached(t, c)
	for i, q := range p.both {
		y := &run{pair: q, maybe: q.m.groups}
		if i == n {
			y = x
		}
		y.told(t, what, p.m)
		p.begin(i)
	}
}

// told: what is told of a journal behind a cut, also of one without a segment.
func (r *run) told(t *testing.T, what string, m *ebm.Manager) {
	t.Helper()
	got, lebs, errno := Replay(m, r.m.epoch)
	is(t, what+": Replay", errno, api.OK)
	if len(got) < r.m.synced || len(got) > len(r.maybe) || len(lebs) > len(r.m.segments) {
		t.Errorf("%s: %d groups in %d segments, of %d that were appended and %d that were synced", what, len(got), len(lebs), len(r.maybe), r.m.synced)
		return
	}
	alike(t, what, got, r.maybe[:len(got)])
	lists(t, what+": the segments that are told", lebs, r.m.lebs()[:len(lebs)])
	loads(t, what, m, got)
}

func TestByChance(t *testing.T) {
	for i, g := range []api.Geometry{small, tight, {Blocks: 16, Pages: 16, Page: 128, Reserve: 4}, {Blocks: 20, Pages: 32, Page: 128, Reserve: 5}} {
		for seed := range int64(3) {
			p := &player{r: rand.New(rand.NewSource(seed*10 + int64(i))), m: formatted(t, g)}
			p.begin(0)
			p.begin(1)
			for n := range 250 {
				p.play(t, fmt.Sprint(g, ", seed ", seed, ", step ", n))
				if t.Failed() {
					t.FailNow()
				}
			}
			if p.cuts < 3 || p.fails < 1 || p.epoch < 5 {
				t.Errorf("%v: %d cuts, %d fails, %d epochs", g, p.cuts, p.fails, p.epoch)
			}
		}
	}
}

// TestRightByChance: of groups that are nearly right.
func TestRightByChance(t *testing.T) {
	r := rand.New(rand.NewSource(1))
	right := 0
	for range 20000 {
		g := anyGroup(r)
		for range r.Intn(3) {
			n := &g[r.Intn(len(g))]
			switch r.Intn(6) {
			case 0:
				n.Key = text(r.Intn(70), r.Int())
			case 1:
				n.Value = text(200+r.Intn(60), r.Int())
			case 2:
				n.Gone = !n.Gone
			case 3:
				n.Key = g[r.Intn(len(g))].Key
			case 4:
				g = append(g, put(text(64, r.Int()), text(r.Intn(257), r.Int())))
			case 5:
				g = g[:r.Intn(len(g))+1]
			}
		}
		want := api.EINVAL
		if rightly(g) {
			want = api.OK
			right++
		}
		if got := Right(g); got != want {
			t.Fatalf("Right of %s: %d, not %d", shown(g), got, want)
		}
	}
	if right < 2000 || right > 18000 {
		t.Errorf("%d of them are right", right)
	}
}
