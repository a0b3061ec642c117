package master

import (
	"fmt"
	"math/rand"
	"testing"

	"pumice/api"
	"pumice/ebm"
	"pumice/nand"
)

// player: drives a master by chance, and holds it against the model.
type player struct {
	r    *rand.Rand
	m    *ebm.Manager
	x    *Master
	want model
	cuts int
}

func (p *player) record() Record {
	size := p.r.Intn(513)
	if p.r.Intn(2) == 0 {
		size = p.r.Intn(60)
	}
	return Record{p.r.Uint64(), text(size, p.r.Int())}
}

// step: mostly a Save; sometimes it is opened or attached anew, made anew, worn, or cut.
func (p *player) step(t *testing.T, what string) {
	t.Helper()
	switch p.r.Intn(12) {
	case 0:
		p.x = opened(t, p.m)
	case 1:
		p.m = attached(t, p.m.Chip())
		p.x = opened(t, p.m)
	case 2:
		r := p.record()
		p.x, p.want = created(t, p.m, r), begun(p.want.g, r)
	case 3:
		_, errno := p.m.Wear()
		is(t, what+": Wear", errno, api.OK)
	case 4:
		leb := 1 + p.r.Intn(p.m.Lebs()-1)
		is(t, what+": Change", p.m.Change(leb, [][]byte{[]byte(text(40, leb))}), api.OK)
	case 5, 6:
		p.cut(t, what)
	default:
		p.save(t, what)
	}
	p.want.held(t, what, p.x)
}

func (p *player) save(t *testing.T, what string) {
	t.Helper()
	r := p.record()
	p.want.broken = p.want.broken || p.m.Closed(0)
	is(t, what+": Save", p.x.Save(r), api.OK)
	p.want = p.want.saved(r)
}

// cut: the power goes off within a Save, or shortly behind it.
func (p *player) cut(t *testing.T, what string) {
	t.Helper()
	c, r := p.m.Chip(), p.record()
	broken := p.want.broken || p.m.Closed(0)
	arm(t, c, api.Fault{At: 1 + p.r.Intn(5), Kind: api.Cut, Torn: p.r.Intn(3)})
	errno := p.x.Save(r)
	after := p.want
	after.broken = broken
	after = after.saved(r)
	arm(t, c)
	if errno == api.OK {
		p.want = after
		return
	}
	is(t, what+": Save", errno, api.ENXIO)
	tells(t, what, p.x, p.want.newest, p.want.saves)
	p.cuts++
	c.Power()
	p.recover(t, what, c, after)
}

// recover: the new record, just as it would have been; or the one ahead of it, with some pages behind it that are no frame.
func (p *player) recover(t *testing.T, what string, c *nand.Chip, after model) {
	t.Helper()
	p.m = attached(t, c)
	p.x = opened(t, p.m)
	if p.x.Record() == after.newest {
		p.want = after
		return
	}
	tells(t, what+", recovered", p.x, p.want.newest, p.want.saves)
	stands := onChip(t, p.m, 0)
	was := string(p.want.data)
	if len(stands) < len(was) || stands[:len(was)] != was {
		t.Errorf("%s: what stood there is gone", what)
	}
	p.want.data = []byte(stands)
	p.want.broken = p.want.broken || len(stands) > len(was)
}

// TestByChance: several hundred records on each chip.
func TestByChance(t *testing.T) {
	for i, g := range []api.Geometry{small, tight, {Blocks: 16, Pages: 16, Page: 128, Reserve: 1}, {Blocks: 20, Pages: 32, Page: 128, Reserve: 5}} {
		first := Record{1, "a"}
		m := formatted(t, g)
		p := &player{r: rand.New(rand.NewSource(int64(i))), m: m, x: created(t, m, first), want: begun(g, first)}
		for n := range 1500 {
			what := fmt.Sprint(g, ", step ", n)
			p.step(t, what)
			if t.Failed() {
				t.FailNow()
			}
		}
		if p.cuts < 50 {
			t.Errorf("%v: %d cuts", g, p.cuts)
		}
	}
}

// TestManySaves: several hundred records one behind the other, opened anew between them, without a fault.
func TestManySaves(t *testing.T) {
	for _, g := range []api.Geometry{small, tight, large} {
		r := rand.New(rand.NewSource(9))
		m := formatted(t, g)
		x, want := created(t, m, Record{}), begun(g, Record{})
		for i := range 600 {
			next := Record{r.Uint64(), text(r.Intn(513), i)}
			is(t, "Save", x.Save(next), api.OK)
			want = want.saved(next)
			tells(t, fmt.Sprint(g, ", Save ", i), x, want.newest, want.saves)
			if r.Intn(4) == 0 {
				x = opened(t, m)
				want.held(t, fmt.Sprint(g, ", Save ", i), x)
			}
		}
		want.heldByAll(t, fmt.Sprint(g), x)
	}
}
