package cache

import (
	"fmt"
	"maps"
	"math/rand"
	"slices"
	"testing"

	"pumice/api"
	"pumice/nand"
	"pumice/space"
)

// player: drives a cache by chance, and holds it against the model.
type player struct {
	r       *rand.Rand
	c       *nand.Chip
	x       *Cache
	maps    []model // the map behind each group; the first one stands on the chip
	flushed int     // the number of the one that the store has
	keys    int
	most    int // bytes of a value
	fulls   int // Puts for which there was no room
	cuts    int
	lost    int // groups that went with one
}

func started(t *testing.T, g api.Geometry, seed int64, keys, most int) *player {
	t.Helper()
	c := chip(t, g)
	return &player{r: rand.New(rand.NewSource(seed)), c: c, x: formatted(t, c), maps: []model{{}}, keys: keys, most: most}
}

func (p *player) now() model { return p.maps[len(p.maps)-1] }

func (p *player) waiting() int { return len(p.maps) - 1 - p.flushed }

func (p *player) key(n int) string { return text(1+n*11%api.MaxKey, n) }

// group: of some keys, each once.
func (p *player) group() []api.Node {
	var g []api.Node
	for _, n := range p.r.Perm(p.keys)[:1+p.r.Intn(min(4, p.keys))] {
		if p.r.Intn(4) == 0 {
			g = append(g, gone(p.key(n)))
		} else {
			g = append(g, put(p.key(n), text(p.r.Intn(p.most+1), p.r.Intn(1000))))
		}
	}
	return g
}

// stands: so many of the groups stand on the chip.
func (p *player) stands(n int) {
	p.maps = p.maps[n:]
	p.flushed = max(p.flushed-n, 0)
}

// step: one call; what it answered.
func (p *player) step(t *testing.T, what string) api.Errno {
	t.Helper()
	switch k := p.r.Intn(100); {
	case k < 40:
		return p.put(t, what)
	case k < 65:
		return p.look(t, what)
	case k < 85:
		return p.flush(t, what)
	case k < 88:
		return p.sync(t, what)
	case k < 92:
		most := p.r.Intn(p.keys+2) - 1
		if n := p.x.Evict(most); n > max(most, 0) || n > len(p.now()) {
			t.Errorf("%s: Evict(%d): %d", what, most, n)
		}
		return api.OK
	default:
		return p.below(k)
	}
}

func (p *player) put(t *testing.T, what string) api.Errno {
	t.Helper()
	g := p.group()
	want := p.now().answer(g, p.x.Limit())
	was := p.c.Ops()
	is(t, what+": Put", p.x.Put(g), want)
	is(t, what+": operations", p.c.Ops()-was, 0)
	if want == api.OK {
		p.maps = append(p.maps, p.now().with(g))
	} else {
		p.fulls++
	}
	return api.OK
}

// look: a Get and a Range.
func (p *player) look(t *testing.T, what string) api.Errno {
	t.Helper()
	key, from, to := p.key(p.r.Intn(p.keys)), p.key(p.r.Intn(p.keys)), p.key(p.r.Intn(p.keys))
	want := none
	if value, ok := p.now()[key]; ok {
		want = told(value)
	}
	is(t, what+": Get", got(p.x, key), want)
	if p.r.Intn(3) == 0 {
		from += "\x00"
	}
	if p.r.Intn(3) == 0 {
		to = ""
	}
	most := p.r.Intn(p.keys + 1)
	ranges(t, what, p.x, from, to, most, p.now().nodes(from, to, most))
	return api.OK
}

func (p *player) flush(t *testing.T, what string) api.Errno {
	t.Helper()
	was := p.c.Ops()
	more, errno := p.x.Flush()
	if n := p.c.Ops() - was; n > space.Most(p.c.Geometry()) {
		t.Errorf("%s: %d operations", what, n)
	}
	if errno == api.ENXIO {
		is(t, what+": Flush", more, false)
		is(t, what+": Waiting", p.x.Waiting(), p.waiting())
		p.flushed++ // it may count
		return errno
	}
	is(t, what+": Flush", fmt.Sprint(more, errno), fmt.Sprint(p.waiting() > 0, api.OK))
	if more {
		p.flushed++
	}
	return errno
}

func (p *player) sync(t *testing.T, what string) api.Errno {
	t.Helper()
	errno := p.x.Sync()
	if errno == api.ENXIO {
		p.flushed = min(len(p.maps)-p.x.Waiting(), len(p.maps)-1) // the one that it was about may count
		return errno
	}
	is(t, what+": Sync", errno, api.OK)
	p.stands(len(p.maps) - 1)
	return errno
}

// below: a call of the store, of which the cache is not told.
func (p *player) below(k int) (errno api.Errno) {
	s := p.x.Store()
	switch k % 4 {
	case 0:
		_, errno = s.Collect()
	case 1:
		_, errno = s.Wear()
	case 2:
		errno = s.Commit()
	default:
		errno = s.Sync()
	}
	if errno == api.OK && k%4 > 1 {
		p.stands(p.flushed)
	}
	return errno
}

// recover: behind a cut the map is one of those from the last one that stood on the chip to the last one that was flushed.
func (p *player) recover(t *testing.T, what string) {
	t.Helper()
	p.c.Power()
	arm(t, p.c)
	p.x = mounted(t, p.c)
	m := whole(t, what, p.x)
	at := slices.IndexFunc(p.maps[:p.flushed+1], func(x model) bool { return maps.Equal(x, m) })
	if at < 0 {
		t.Fatalf("%s: %.300s is none of %d maps", what, fmt.Sprint(m), p.flushed+1)
	}
	p.cuts++
	p.lost += len(p.maps) - 1 - at
	p.maps, p.flushed = []model{m}, 0
}

// play: so many steps, of which some are cut.
func (p *player) play(t *testing.T, what string, steps, once int) {
	t.Helper()
	for n := range steps {
		at := fmt.Sprint(what, ", step ", n)
		if once > 0 && p.r.Intn(once) == 0 {
			arm(t, p.c, api.Fault{At: 1 + p.r.Intn(20), Kind: api.Cut, Torn: p.r.Intn(3)})
		}
		if errno := p.step(t, at); errno == api.ENXIO {
			p.recover(t, at)
		} else {
			is(t, at, errno, api.OK)
		}
		is(t, at+": Waiting", p.x.Waiting(), p.waiting())
		is(t, at+": Cost", p.x.Cost(), p.now().cost())
		if n%16 == 0 {
			p.now().held(t, at, p.x)
			is(t, at+": the store's map", maps.Equal(whole(t, at, p.x.Store()), p.maps[p.flushed]), true)
		}
		if t.Failed() {
			t.FailNow()
		}
	}
}

// TestByChance: P1902, P1905, P1906, P1907: few keys and many, short values and long ones, without a fault and with cuts.
func TestByChance(t *testing.T) {
	fulls, cuts, lost := 0, 0, 0
	for i, g := range []api.Geometry{small, least, bare, middle} {
		for _, once := range []int{0, 50, 8} {
			for j, c := range []struct{ keys, most int }{{3, api.MaxValue}, {14, 60}, {40, 3}, {25, api.MaxValue}} {
				p := started(t, g, int64(i*10+j), c.keys, c.most)
				p.play(t, fmt.Sprint(g, c, " a cut in ", once), 1200, once)
				fulls, cuts, lost = fulls+p.fulls, cuts+p.cuts, lost+p.lost
			}
		}
	}
	if fulls < 1000 || cuts < 300 || lost < 1000 {
		t.Errorf("%d Puts without room, %d cuts, %d groups lost", fulls, cuts, lost)
	}
}

// TestFailures: failures of the chip, no more than its reserve, change no answer.
func TestFailures(t *testing.T) {
	for i, g := range []api.Geometry{small, least, middle} {
		for j := range 12 {
			p := started(t, g, int64(i*100+j), 20, 200)
			var plan []api.Fault
			for n := range g.Reserve {
				plan = append(plan, api.Fault{At: 1 + p.r.Intn(20) + n*(1+j*5), Kind: api.Fail})
			}
			slices.SortFunc(plan, func(one, other api.Fault) int { return one.At - other.At })
			plan = slices.CompactFunc(plan, func(one, other api.Fault) bool { return one.At == other.At })
			arm(t, p.c, plan...)
			p.play(t, fmt.Sprint(g, ", plan ", j), 400, 0)
			is(t, "Spent", p.x.Store().Spent(), false)
		}
	}
}
