package ebm

import (
	"fmt"
	"math/rand"
	"strings"
	"testing"

	"pumice/api"
)

// player: a manager, driven by chance, beside what its logical blocks should have.
type player struct {
	r     *rand.Rand
	m     *Manager
	model lebs
	word  int // so that no two pages are the same
}

func (p *player) text() string {
	p.word++
	return fmt.Sprint("t", p.word)
}

// step: one call by chance, what it should make of its logical block, and what it should say, if nothing goes wrong.
func (p *player) step() (what string, n int, to leb, want api.Errno, do func() api.Errno) {
	n = p.r.Intn(len(p.model))
	was := p.model[n]
	switch k := p.r.Intn(10); {
	case k < 5:
		data := p.text()
		to = leb{pages: was.pages + text(data)}
		if was.closed || strings.Count(was.pages, "/") == p.m.Pages() {
			to, want = was, api.ENOSPC
		}
		return "Write", n, to, want, func() api.Errno { return p.m.Write(n, []byte(data)) }
	case k < 6:
		return "Unmap", n, leb{}, api.OK, func() api.Errno { return p.m.Unmap(n) }
	case k < 8:
		var l []string
		for range p.r.Intn(p.m.Pages() + 1) {
			l = append(l, p.text())
		}
		return "Change", n, leb{pages: text(l...)}, api.OK, func() api.Errno { return p.m.Change(n, cells(l...)) }
	}
	return "Wear", n, was, api.OK, func() api.Errno {
		_, errno := p.m.Wear()
		return errno
	}
}

// faults: a plan by chance; often none.
func (p *player) faults(failing bool) []api.Fault {
	at := 1 + p.r.Intn(6)
	switch p.r.Intn(12) {
	case 0, 1:
		return []api.Fault{{At: at, Kind: api.Cut, Torn: p.r.Intn(3)}}
	case 2:
		if failing {
			return []api.Fault{{At: at, Kind: api.Fail}}
		}
	case 3:
		if failing {
			return []api.Fault{{At: at, Kind: api.Fail}, {At: at + 1 + p.r.Intn(5), Kind: api.Cut, Torn: p.r.Intn(3)}}
		}
	}
	return nil
}

// play: one call with faults: what it says, and what stands there then.
func (p *player) play(t *testing.T, failing bool) {
	what, n, to, want, do := p.step()
	arm(t, p.m.chip, p.faults(failing)...)
	spent := p.m.Spent()
	errno := do()
	arm(t, p.m.chip)
	was := p.model
	switch {
	case spent:
		is(t, what, errno, api.EROFS)
	case errno == api.ENXIO:
		p.recover(t, what, n, to)
		return
	case errno == api.EROFS:
		is(t, what+": Spent", p.m.Spent(), true)
	default:
		is(t, what, errno, want)
		p.model = was.with(n, to)
	}
	p.opened(what)
	same(t, what, looked(t, p.m), p.model)
	if errno != api.EROFS {
		sound(t, what, p.m)
	}
}

// recover: behind a cut: attached anew, as often as it needs.
func (p *player) recover(t *testing.T, what string, n int, to leb) {
	c := p.m.chip
	is(t, what+": On", c.On(), false)
	c.Power()
	for p.r.Intn(2) == 0 {
		arm(t, c, api.Fault{At: 1 + p.r.Intn(4), Kind: api.Cut, Torn: p.r.Intn(3)})
		Attach(c)
		c.Power()
	}
	arm(t, c)
	p.m = attached(t, c)
	got := looked(t, p.m)
	was := p.model[n]
	shut := leb{pages: was.pages, closed: true}
	switch {
	case got[n] == was, got[n] == to, what == "Write" && got[n] == shut:
		p.model = p.model.with(n, got[n])
	}
	p.opened(what)
	same(t, what+": attached", got, p.model)
	sound(t, what, p.m)
}

// opened: Wear opens what it moves, and it alone says what that is.
func (p *player) opened(what string) {
	for n := range p.model {
		if what == "Wear" && p.model[n].closed && !p.m.Closed(n) {
			p.model = p.model.with(n, leb{pages: p.model[n].pages})
		}
	}
}

func TestModel(t *testing.T) {
	for _, g := range []api.Geometry{small, {Blocks: 16, Pages: 8, Page: 256}, {Blocks: 40, Pages: 32, Page: 64, Reserve: 10}} {
		for _, failing := range []bool{false, true} {
			for seed := range 4 {
				m := formatted(t, g)
				p := &player{r: rand.New(rand.NewSource(int64(seed))), m: m, model: make(lebs, m.Lebs())}
				for range 200 {
					p.play(t, failing)
					if t.Failed() {
						t.Fatalf("%+v, failing %v, seed %d", g, failing, seed)
					}
				}
			}
		}
	}
}
