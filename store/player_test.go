package store

import (
	"fmt"
	"maps"
	"math/rand"
	"testing"

	"pumice/api"
	"pumice/nand"
)

// player: drives a store by chance, and holds it against the model.
type player struct {
	r     *rand.Rand
	c     *nand.Chip
	s     *Store
	maps  []model // the map behind each group since the last sync, that ahead of them first
	keys  int
	most  int // bytes of a value
	cuts  int
	fulls int // Puts for which there was no room
	steps int // Collects and Wears that found something
}

func started(t *testing.T, g api.Geometry, seed int64, keys, most int) *player {
	t.Helper()
	c := chip(t, g)
	return &player{r: rand.New(rand.NewSource(seed)), c: c, s: formatted(t, c), maps: []model{{}}, keys: keys, most: most}
}

func (p *player) now() model { return p.maps[len(p.maps)-1] }

// group: of some keys, each once.
func (p *player) group() []api.Node {
	var g []api.Node
	for _, n := range p.r.Perm(p.keys)[:1+p.r.Intn(min(4, p.keys))] {
		key := text(1+n*11%api.MaxKey, n)
		if p.r.Intn(4) == 0 {
			g = append(g, gone(key))
		} else {
			g = append(g, put(key, text(p.r.Intn(p.most+1), p.r.Intn(1000))))
		}
	}
	return g
}

// step: a call of the store, or of Mount; what it answered.
func (p *player) step(t *testing.T, what string) (errno api.Errno) {
	t.Helper()
	want, done := api.OK, false
	frugal(t, what, p.c, func() {
		switch k := p.r.Intn(40); {
		case k < 30:
			errno, want = p.put()
		case k < 33:
			errno = p.s.Sync()
			p.synced(errno)
		case k < 35:
			errno = p.s.Commit()
			p.synced(errno)
		case k < 37:
			done, errno = p.s.Collect()
			p.steps += count(done)
		case k < 39:
			done, errno = p.s.Wear()
			p.steps += count(done)
		default:
			errno = p.mount(t, what)
		}
	})
	if errno != api.ENXIO {
		is(t, what, errno, want)
	}
	return errno
}

func count(done bool) int {
	if done {
		return 1
	}
	return 0
}

// put: what it answered, and what it must. A group that was cut counts among the maps that may be, and is there with all others that were not synced.
func (p *player) put() (errno, want api.Errno) {
	g := p.group()
	want = p.now().answer(g, p.s.Limit())
	errno = p.s.Put(g)
	if errno == api.ENOSPC {
		p.fulls++
	}
	if errno == api.OK || errno == api.ENXIO && want == api.OK {
		p.maps = append(p.maps, p.now().with(g))
	}
	return errno, want
}

func (p *player) synced(errno api.Errno) {
	if errno == api.OK {
		p.maps = p.maps[len(p.maps)-1:]
	}
}

// mount: from then on the map is one of those that may be.
func (p *player) mount(t *testing.T, what string) api.Errno {
	t.Helper()
	s, errno := Mount(p.c)
	if errno != api.OK {
		return errno
	}
	p.s = s
	got := whole(t, s)
	for i := len(p.maps) - 1; i >= 0; i-- {
		if maps.Equal(got, p.maps[i]) {
			p.maps = p.maps[i : i+1]
			p.now().held(t, what, s)
			return api.OK
		}
	}
	t.Fatalf("%s: %.300s is none of %d maps", what, fmt.Sprint(got), len(p.maps))
	return api.OK
}

// recover: mounts behind a cut, which may be cut again.
func (p *player) recover(t *testing.T, what string) {
	t.Helper()
	errno := api.ENXIO
	for errno == api.ENXIO {
		p.cuts++
		p.c.Power()
		p.cut(t, 2, 12)
		frugal(t, what, p.c, func() { errno = p.mount(t, what) })
	}
	is(t, what+": Mount", errno, api.OK)
}

// cut: once in a while the power is to go off within the next operations.
func (p *player) cut(t *testing.T, once, within int) {
	t.Helper()
	if once > 0 && p.r.Intn(once) == 0 {
		arm(t, p.c, api.Fault{At: 1 + p.r.Intn(within), Kind: api.Cut, Torn: p.r.Intn(3)})
	}
}

// play: so many steps, of which some are cut.
func (p *player) play(t *testing.T, what string, steps, once int) {
	t.Helper()
	for n := range steps {
		at := fmt.Sprint(what, ", step ", n)
		p.cut(t, once, 40)
		if p.step(t, at) == api.ENXIO {
			p.recover(t, at)
		}
		if n%8 == 0 {
			p.now().held(t, at, p.s)
		}
		if t.Failed() {
			t.FailNow()
		}
	}
}

// TestByChance: without a fault, with cuts now and then, with cuts all the time; few keys and many, short values and long ones.
func TestByChance(t *testing.T) {
	fulls, cuts, steps := 0, 0, 0
	for i, g := range append(smallOnes(), middle) {
		for _, once := range []int{0, 40, 6} {
			for _, c := range []struct{ keys, most int }{{3, api.MaxValue}, {14, 60}, {40, 3}, {25, api.MaxValue}} {
				p := started(t, g, int64(i), c.keys, c.most)
				p.play(t, fmt.Sprint(g, c, " a cut in ", once), 500, once)
				fulls, cuts, steps = fulls+p.fulls, cuts+p.cuts, steps+p.steps
			}
		}
	}
	if fulls < 1000 || cuts < 1000 || steps < 500 {
		t.Errorf("%d Puts without room, %d cuts, %d steps", fulls, cuts, steps)
	}
}
