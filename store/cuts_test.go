package store

import (
	"fmt"
	"maps"
	"testing"

	"pumice/api"
	"pumice/journal"
	"pumice/nand"
	"pumice/space"
)

// Kinds of steps beside Put.
const (
	aPut = iota
	aSync
	aCommit
	aCollect
	aWear
)

// step: of a script.
type step struct {
	kind int
	g    []api.Node
}

// script: so many steps, with which a small chip comes near to its limit, to checkpoints that move nodes, to Commits that write some of the index and all of it.
func script(g api.Geometry, size int) []step {
	most := min(space.Limit(g)/7, api.MaxValue)
	var l []step
	for n := range size {
		switch {
		case n%13 == 6:
			l = append(l, step{kind: aSync})
		case n%17 == 9:
			l = append(l, step{kind: aCommit})
		case n%19 == 11:
			l = append(l, step{kind: aCollect})
		case n%23 == 14:
			l = append(l, step{kind: aWear})
		case n%7 == 3:
			l = append(l, step{g: group(gone(text(4+n%5, n%5)), put("p", text(n%31, n)), gone("q"))})
		default:
			l = append(l, step{g: group(put(text(4+n%7, n%7), text(n*53%most, n)))})
		}
	}
	return l
}

// run: a script that was done to a store, until the power went off.
type run struct {
	s      *Store
	maps   []model // the map behind each group since the last sync, that ahead of them first
	off    bool
	within step   // what was cut
	rest   []step // and what is behind it
}

func (r *run) now() model { return r.maps[len(r.maps)-1] }

// does: the steps of a script, as far as they come.
func (r *run) does(t *testing.T, what string, l []step) {
	t.Helper()
	for i, x := range l {
		errno, want := api.OK, api.OK
		frugal(t, what, r.s.Chip(), func() { errno, want = r.do(x) })
		if errno == api.ENXIO {
			r.off, r.within, r.rest = true, x, l[i+1:]
			return
		}
		is(t, what, errno, want)
	}
}

// do: one step: what it answered, and what it must.
func (r *run) do(x step) (errno, want api.Errno) {
	switch x.kind {
	case aSync:
		errno = r.s.Sync()
	case aCommit:
		errno = r.s.Commit()
	case aCollect:
		_, errno = r.s.Collect()
	case aWear:
		_, errno = r.s.Wear()
	default:
		want = r.now().answer(x.g, r.s.Limit())
		errno = r.s.Put(x.g)
		if errno == api.OK || errno == api.ENXIO && want == api.OK {
			r.maps = append(r.maps, r.now().with(x.g))
		}
	}
	if errno == api.OK && (x.kind == aSync || x.kind == aCommit) {
		r.maps = r.maps[len(r.maps)-1:]
	}
	return errno, want
}

// revived: the run goes on with a store that was mounted behind a cut, whose map is one of those that may be.
func (r *run) revived(t *testing.T, what string, s *Store) *run {
	t.Helper()
	got := whole(t, s)
	for i := len(r.maps) - 1; i >= 0; i-- {
		if maps.Equal(got, r.maps[i]) {
			got.held(t, what, s)
			return &run{s: s, maps: []model{got}}
		}
	}
	t.Fatalf("%s: %.400s is none of %d maps, of which the last is %.400s", what, fmt.Sprint(got), len(r.maps), fmt.Sprint(r.now()))
	return nil
}

// ends: the rest of a script is done as if nothing had been, and all of it stands on the chip behind a Sync.
func (r *run) ends(t *testing.T, what string, l []step) {
	t.Helper()
	r.does(t, what, l)
	r.now().held(t, what+", at the end", r.s)
	is(t, what+": Sync", r.s.Sync(), api.OK)
	r.now().held(t, what+", mounted at the end", mounted(t, r.s.Chip()))
}

// cutMounts: the Mount behind a cut is cut, too, at each of its operations in turn, and the one behind that; then it is one of the maps that may be.
func (r *run) cutMounts(t *testing.T, what string, off *nand.Chip, torn int) {
	t.Helper()
	for k := 1; ; k++ {
		at := fmt.Sprint(what, ", Mount cut at ", k)
		c := off.Clone()
		c.Power()
		arm(t, c, api.Fault{At: k, Kind: api.Cut, Torn: torn}, api.Fault{At: k + 1 + k%4, Kind: api.Cut, Torn: (torn + 1) % 3})
		s, errno := Mount(c)
		if errno == api.OK {
			arm(t, c)
			r.revived(t, at, s)
			return
		}
		for errno != api.OK {
			if none(t, at, s, errno, api.ENXIO); t.Failed() {
				t.FailNow()
			}
			c.Power()
			s, errno = Mount(c)
		}
		arm(t, c)
		went := r.revived(t, at, s)
		if k%8 == 1 {
			went.ends(t, at, r.rest)
		}
	}
}

// TestCuts: P1707: the power is cut at each operation of a script, torn in each way.
func TestCuts(t *testing.T) {
	for _, g := range []api.Geometry{small, least, thin} {
		t.Run(fmt.Sprint(g), func(t *testing.T) {
			t.Parallel()
			cut := map[int]int{}
			for n := 1; cutAt(t, g, n, cut); n++ {
			}
			for _, kind := range []int{aPut, aSync, aCommit, aCollect} {
				if cut[kind] < 20 {
					t.Errorf("only %d cuts of the kind %d", cut[kind], kind)
				}
			}
		})
	}
}

// cutAt: a script is cut at this operation; false, if it has not so many.
func cutAt(t *testing.T, g api.Geometry, n int, cut map[int]int) bool {
	t.Helper()
	for torn := range 3 {
		what := fmt.Sprint("cut at ", n, ", torn ", torn)
		c := chip(t, g)
		r := &run{s: formatted(t, c), maps: []model{{}}}
		arm(t, c, api.Fault{At: n, Kind: api.Cut, Torn: torn})
		r.does(t, what, script(g, 110))
		if !r.off {
			return false
		}
		cut[r.within.kind]++
		if n%4 > 0 {
			r.rest = r.rest[:min(len(r.rest), 20)]
		}
		if n%9 == 0 {
			asleep(t, what, r.s)
		}
		r.cutMounts(t, what, c, (torn+n)%3)
		c.Power()
		if n%9 == 0 {
			asleep(t, what+", and on again", r.s)
		}
		r.revived(t, what, mounted(t, c)).ends(t, what, r.rest)
		if t.Failed() {
			t.FailNow()
		}
	}
	return true
}

// TestWearCut: the same of a wear step that moves something.
func TestWearCut(t *testing.T) {
	s, m := aged(t, small)
	is(t, "Put", s.Put(group(put("kept", "in memory"))), api.OK)
	is(t, "Commit", s.Commit(), api.OK)
	m = m.with(group(put("kept", "in memory")))
	base := s.Chip()
	for n := 1; ; n++ {
		for torn := range 3 {
			what := fmt.Sprint("cut at ", n, ", torn ", torn)
			c := base.Clone()
			r := &run{s: mounted(t, c), maps: []model{m}}
			arm(t, c, api.Fault{At: n, Kind: api.Cut, Torn: torn})
			moved, errno := r.s.Wear()
			if errno == api.OK {
				is(t, "moved", moved, true)
				is(t, "operations", n > 3, true)
				return
			}
			is(t, what, fmt.Sprint(moved, errno), fmt.Sprint(false, api.ENXIO))
			r.cutMounts(t, what, c, torn)
			c.Power()
			r.revived(t, what, mounted(t, c)).ends(t, what, script(small, 40))
		}
	}
}

// TestCutsWithoutEnd: the power never stays on long enough for more than a few operations: nothing that was synced is lost, no room either.
func TestCutsWithoutEnd(t *testing.T) {
	for _, g := range []api.Geometry{small, least, odd} {
		for every := 3; every < 40; every += 4 {
			c := chip(t, g)
			s := formatted(t, c)
			m := filled(t, s, [2]int{20, 100})
			is(t, "Sync", s.Sync(), api.OK)
			r := &run{s: s, maps: []model{m}}
			what := fmt.Sprint(g, " cut each ", every)
			for n := range 60 {
				arm(t, c, api.Fault{At: every + n%3, Kind: api.Cut, Torn: n % 3})
				r.does(t, what, []step{{g: group(sized(n%len(m), [2]int{20, 100}, n))}, {kind: aCommit}, {kind: aCollect}, {g: group(gone("nothing"))}, {kind: aSync}})
				for r.off {
					c.Power()
					arm(t, c, api.Fault{At: every + n%5, Kind: api.Cut, Torn: n % 3})
					s, errno := Mount(c)
					if errno == api.OK {
						r = r.revived(t, what, s)
					} else if none(t, what, s, errno, api.ENXIO); t.Failed() {
						t.FailNow()
					}
				}
			}
			arm(t, c)
			r.ends(t, what, script(g, 60))
		}
	}
}

// leftOver: a chip on which a checkpoint was cut behind two segments of its epoch, which is the next one's, too.
func leftOver(t *testing.T) *nand.Chip {
	t.Helper()
	s := formatted(t, chip(t, small))
	is(t, "Put", s.Put(group(put("a", "1"), put("b", "2"))), api.OK)
	is(t, "Sync", s.Sync(), api.OK)
	j := journal.New(s.m, s.epoch+1)
	for leb := 10; leb <= 11; leb++ {
		is(t, "Add", j.Add(leb), api.OK)
		_, errno := j.Append(group(put("a", "left over"), put("x", "left over")))
		is(t, "Append", errno, api.OK)
	}
	is(t, "Sync", j.Sync(), api.OK)
	return s.Chip()
}

// TestLeftOver: nothing of them is ever told, also if the next checkpoint is cut as soon as it counts.
func TestLeftOver(t *testing.T) {
	base := leftOver(t)
	for n := 1; ; n++ {
		for torn := range 3 {
			what := fmt.Sprint("cut at ", n, ", torn ", torn)
			c := base.Clone()
			r := &run{s: mounted(t, c), maps: []model{{"a": "1", "b": "2"}}}
			arm(t, c, api.Fault{At: n, Kind: api.Cut, Torn: torn})
			r.does(t, what, []step{{g: group(put("b", "3"))}, {kind: aSync}})
			if !r.off {
				is(t, "operations", n > 5, true)
				r.revived(t, "not cut", mounted(t, c))
				return
			}
			c.Power()
			r.revived(t, what, mounted(t, c))
		}
	}
}
