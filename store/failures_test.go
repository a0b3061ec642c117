package store

import (
	"fmt"
	"maps"
	"math/rand"
	"testing"

	"pumice/api"
)

// fails: a plan of failures of these operations.
func fails(at ...int) []api.Fault {
	var plan []api.Fault
	for _, n := range at {
		plan = append(plan, api.Fault{At: n, Kind: api.Fail})
	}
	return plan
}

// bads: how many blocks of a store's chip are bad.
func bads(s *Store) int {
	n := 0
	for block := range s.Chip().Geometry().Blocks {
		n += count(s.Chip().Bad(block))
	}
	return n
}

// TestOneFailure: P1708: each operation of a script fails in turn: no answer changes.
func TestOneFailure(t *testing.T) {
	for _, g := range []api.Geometry{small, least} {
		for n := 1; ; n++ {
			what := fmt.Sprint(g, " failing at ", n)
			c := chip(t, g)
			r := &run{s: formatted(t, c), maps: []model{{}}}
			arm(t, c, fails(n)...)
			r.does(t, what, script(g, 150))
			r.now().held(t, what, r.s)
			if bads(r.s) == 0 {
				break
			}
			is(t, what+": bad blocks", bads(r.s), 1)
			r.ends(t, what, script(g, 20))
			if t.Failed() {
				t.FailNow()
			}
		}
	}
}

// TestFailuresUpToTheReserve: of any operations, of those one behind the other too, also within Format and Mount.
func TestFailuresUpToTheReserve(t *testing.T) {
	r := rand.New(rand.NewSource(1))
	for _, g := range []api.Geometry{small, least, odd, middle} {
		for i := range 60 {
			what := fmt.Sprint(g, ", plan ", i)
			c := chip(t, g)
			var at []int
			for n := range g.Reserve {
				at = append(at, 1+n+[]int{r.Intn(700), r.Intn(60), i * 5}[i%3]+n*r.Intn(40))
			}
			arm(t, c, fails(distinct(at)...)...)
			run := &run{s: formatted(t, c), maps: []model{{}}}
			l := script(g, 150)
			run.does(t, what, l[:70])
			is(t, what+": Sync", run.s.Sync(), api.OK)
			run.s = mounted(t, c)
			run.does(t, what, l[70:])
			is(t, what+": Spent", run.s.Spent(), false)
			arm(t, c)
			run.ends(t, what, script(g, 30))
			if t.Failed() {
				t.FailNow()
			}
		}
	}
}

// distinct: these numbers, each once.
func distinct(l []int) []int {
	var once []int
	seen := map[int]bool{}
	for _, n := range l {
		for seen[n] {
			n++
		}
		seen[n] = true
		once = append(once, n)
	}
	return once
}

// TestBeyondTheReserve: from the failure on that is one too many Put says EROFS, and what is read stays; what was synced is mounted.
func TestBeyondTheReserve(t *testing.T) {
	for _, g := range []api.Geometry{small, least, bare} {
		for gap := 1; gap < 8; gap += 3 {
			for n := 1; ; n += 1 + n/20 {
				what := fmt.Sprint(g, " failing from ", n, " on, one in ", gap)
				c := chip(t, g)
				r := &run{s: formatted(t, c), maps: []model{{}}}
				var at []int
				for i := range g.Reserve + 1 {
					at = append(at, n+i*gap)
				}
				arm(t, c, fails(at...)...)
				for _, x := range script(g, 150) {
					r.tries(t, what, x)
				}
				if !r.s.Spent() {
					break
				}
				r.spent(t, what)
				if t.Failed() {
					t.FailNow()
				}
			}
		}
	}
}

// tries: one step on a chip that may be spent, or become so. Of one that says EROFS nothing is changed; one that is OK is done.
func (r *run) tries(t *testing.T, what string, x step) {
	t.Helper()
	was := r.s.Spent()
	errno, want := r.do(x)
	switch {
	case errno == api.EROFS:
		is(t, what+": Spent", r.s.Spent(), true)
	case was && x.kind != aSync && x.kind != aCommit:
		is(t, what+": on a spent chip", errno, api.EROFS)
	default:
		is(t, what, errno, want)
	}
	if r.s.Spent() {
		r.now().reads(t, what, r.s)
		if errno == api.OK && x.kind == aSync || x.kind == aCommit && errno == api.OK {
			r.now().reads(t, what+", on the chip", mounted(t, r.s.Chip().Clone()))
		}
	}
}

// reads: the store tells this map. (Of a spent chip more is not asked: a checkpoint may have been left halfway.)
func (m model) reads(t *testing.T, what string, s *Store) {
	t.Helper()
	if got := whole(t, s); !maps.Equal(got, m) {
		t.Fatalf("%s: the map is %.300s, not %.300s", what, fmt.Sprint(got), fmt.Sprint(m))
	}
	is(t, what+": Cost", s.Cost(), m.cost())
	is(t, what+": Wrong", s.Chip().Wrong(), 0)
}

// changed: is the map another one than behind each group ahead of the last one?
func (r *run) changed() bool {
	for _, m := range r.maps[:len(r.maps)-1] {
		if maps.Equal(m, r.now()) {
			return false
		}
	}
	return true
}

// spent: what is asked of a store on a spent chip, and of a Mount.
func (r *run) spent(t *testing.T, what string) {
	t.Helper()
	c := r.s.Chip()
	stands := whole(t, mounted(t, c.Clone()))
	idle(t, what, c, func() {
		is(t, what+": Put", r.s.Put(group(put("a", "1"))), api.EROFS)
		is(t, what+": Put", r.s.Put(group(gone("a"))), api.EROFS)
		errno := r.s.Sync()
		switch {
		case maps.Equal(stands, r.now()) && r.changed():
			is(t, what+": Sync of what stands there", errno, api.OK)
		case errno != api.OK:
			is(t, what+": Sync", errno, api.EROFS)
		default:
			is(t, what+": synced", maps.Equal(stands, r.now()), true)
		}
		r.now().reads(t, what, r.s)
	})
	for range 2 {
		s := mounted(t, c)
		found := false
		for _, m := range r.maps {
			found = found || maps.Equal(m, stands)
		}
		is(t, what+": one of the maps that may be", found, true)
		stands.reads(t, what+", mounted", s)
		is(t, what+": Put", s.Put(group(put("a", "1"))), api.EROFS)
		is(t, what+": Sync", s.Sync(), api.OK)
	}
}

// TestFailuresAndCuts: both, by chance; as many failures as the chip has in reserve.
func TestFailuresAndCuts(t *testing.T) {
	for i, g := range []api.Geometry{small, least, odd, middle} {
		for seed := range int64(6) {
			p := started(t, g, seed, 14, 90)
			for part := range g.Reserve {
				arm(t, p.c, api.Fault{At: 1 + p.r.Intn(200), Kind: api.Fail}, api.Fault{At: 220 + p.r.Intn(30), Kind: api.Cut, Torn: p.r.Intn(3)})
				p.play(t, fmt.Sprint(g, " seed ", seed, " part ", part, i), 250, 0)
			}
			is(t, "Spent", p.s.Spent(), false)
		}
	}
}

// TestSyncOfWhatStandsThere: a group that fails when the chip becomes spent has filled the page of those ahead of it, and this page is written yet: nothing waits then.
func TestSyncOfWhatStandsThere(t *testing.T) {
	c := chip(t, small)
	s := formatted(t, c)
	is(t, "Put", s.Put(group(put("a", "1"))), api.OK)
	is(t, "Put", s.Put(group(put("b", "2"), gone("a"))), api.OK)
	arm(t, c, fails(1, 2, 3)...)
	is(t, "Put", s.Put(group(put("c", text(250, 3)))), api.EROFS)
	is(t, "Spent", s.Spent(), true)
	m := model{"b": "2"}
	m.reads(t, "behind the failures", s)
	is(t, "Sync", s.Sync(), api.OK)
	is(t, "Commit", s.Commit(), api.EROFS)
	m.reads(t, "mounted", mounted(t, c))
}
