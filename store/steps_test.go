package store

import (
	"fmt"
	"math/rand"
	"strings"
	"testing"

	"pumice/api"
	"pumice/nand"
)

// steps: what Sync, Commit, Collect and Wear answer, one behind the other.
func steps(s *Store) string {
	sync, commit := s.Sync(), s.Commit()
	collected, collect := s.Collect()
	moved, wear := s.Wear()
	return fmt.Sprint(sync, commit, collected, collect, moved, wear)
}

// TestStepsWithNothingToDo: P1705.
func TestStepsWithNothingToDo(t *testing.T) {
	nothing := fmt.Sprint(api.OK, api.OK, false, api.OK, false, api.OK)
	for _, g := range append(smallOnes(), middle, great) {
		c := chip(t, g)
		s := formatted(t, c)
		idle(t, "an empty store", c, func() { is(t, "steps", steps(s), nothing) })
		is(t, "Put", s.Put(group(put("a", "1"))), api.OK)
		is(t, "Commit", s.Commit(), api.OK)
		idle(t, "a committed store", c, func() { is(t, "steps", steps(s), nothing) })
		s = mounted(t, c)
		idle(t, "a mounted store", c, func() { is(t, "steps", steps(s), nothing) })
		model{"a": "1"}.held(t, "behind steps", s)
	}
}

// TestSync: all groups so far stand on the chip.
func TestSync(t *testing.T) {
	for _, g := range append(smallOnes(), middle) {
		s, m := formatted(t, chip(t, g)), model{}
		for n := range 150 {
			g := group(put(text(1, n%9), text(n*31%60, n)), gone(text(1, n%4)))
			if s.Put(g) == api.OK {
				m = m.with(g)
			}
			is(t, "Sync", s.Sync(), api.OK)
			is(t, "nodes that are kept", len(s.fresh), 0)
			if n%5 == 0 {
				m.held(t, "on the chip", mounted(t, s.Chip().Clone()))
			}
			idle(t, "Sync again", s.Chip(), func() { is(t, "Sync", s.Sync(), api.OK) })
		}
		m.held(t, "synced", s)
	}
}

// TestSyncOfOneGroup: also one that changes nothing, and one that only takes out.
func TestSyncOfOneGroup(t *testing.T) {
	s := formatted(t, chip(t, small))
	for _, g := range [][]api.Node{group(put("a", "1")), group(put("a", "1")), group(gone("a")), group(gone("a"))} {
		is(t, "Put", s.Put(g), api.OK)
		ops := s.Chip().Ops()
		is(t, "Sync", s.Sync(), api.OK)
		is(t, "operations", s.Chip().Ops() > ops, true)
		whole(t, s).held(t, "on the chip", mounted(t, s.Chip().Clone()))
	}
}

// TestCommit: the index stands there: a Mount has nothing to replay.
func TestCommit(t *testing.T) {
	for _, g := range append(smallOnes(), middle) {
		s, m := formatted(t, chip(t, g)), model{}
		for n := range 150 {
			g := group(put(text(1, n%9), text(n*31%60, n)), gone(text(1, n%4)))
			if s.Put(g) == api.OK {
				m = m.with(g)
			}
			frugal(t, "Commit", s.Chip(), func() { is(t, "Commit", s.Commit(), api.OK) })
			twin := mounted(t, s.Chip().Clone())
			m.held(t, "on the chip", twin)
			is(t, "groups to replay", twin.behind, false)
			idle(t, "Commit again", s.Chip(), func() { is(t, "Commit", s.Commit(), api.OK) })
			idle(t, "Commit of a Mount", twin.Chip(), func() { is(t, "Commit", twin.Commit(), api.OK) })
		}
		m.held(t, "committed", s)
	}
}

// TestLittle: a Commit of one node writes little of a great index; behind it, and a Mount, a small Put writes nothing yet.
func TestLittle(t *testing.T) {
	s := formatted(t, chip(t, great))
	m := model{}
	for n := range 6000 {
		x := sized(n, [2]int{20, 100}, n)
		is(t, "Put", s.Put(group(x)), api.OK)
		m[x.Key] = x.Value
	}
	is(t, "Commit", s.Commit(), api.OK)
	is(t, "Put", s.Put(group(sized(7, [2]int{20, 100}, 1))), api.OK)
	ops := s.Chip().Ops()
	is(t, "Commit", s.Commit(), api.OK)
	if n := s.Chip().Ops() - ops; n > 20 {
		t.Errorf("%d operations, of %d nodes one was put", n, len(m))
	}
	s = mounted(t, s.Chip())
	idle(t, "Put", s.Chip(), func() { is(t, "Put", s.Put(group(sized(7, [2]int{20, 100}, 2))), api.OK) })
	m.with(group(sized(7, [2]int{20, 100}, 2))).held(t, "a great map", s)
}

// TestCommitOfWhatWasReplayed: also a group that changed nothing is in the index then.
func TestCommitOfWhatWasReplayed(t *testing.T) {
	s := formatted(t, chip(t, small))
	is(t, "Put", s.Put(group(put("a", "1"))), api.OK)
	is(t, "Commit", s.Commit(), api.OK)
	for _, g := range [][]api.Node{group(gone("nothing")), group(put("b", "2"))} {
		is(t, "Put", s.Put(g), api.OK)
		is(t, "Sync", s.Sync(), api.OK)
		want := whole(t, s)
		s = mounted(t, s.Chip())
		is(t, "groups to replay", s.behind, true)
		is(t, "Commit", s.Commit(), api.OK)
		s = mounted(t, s.Chip())
		is(t, "groups to replay", s.behind, false)
		want.held(t, "committed", s)
	}
}

// TestCollect: it comes to an end, more is free behind each step, and the map stays.
func TestCollect(t *testing.T) {
	for _, g := range append(smallOnes(), middle, great) {
		s, m := formatted(t, chip(t, g)), model{}
		is(t, "Put", s.Put(group(put("cold", text(200, 1)))), api.OK)
		for n := range 5 * (g.Pages - 2) * g.Page / 200 {
			is(t, "Put", s.Put(group(put("hot", text(190, n)))), api.OK)
		}
		m = m.with(group(put("cold", text(200, 1)), put("hot", text(190, 5*(g.Pages-2)*g.Page/200-1))))
		done := 0
		for {
			free := s.frees()
			var more bool
			var errno api.Errno
			frugal(t, "Collect", s.Chip(), func() { more, errno = s.Collect() })
			is(t, "Collect", errno, api.OK)
			m.held(t, "behind a Collect", s)
			if !more {
				break
			}
			is(t, "more is free", s.frees() > free, true)
			for _, leb := range s.book.Frees() {
				is(t, "pages of a free logical block", s.m.Used(leb), 0)
			}
			done++
		}
		is(t, "there was something to do", done > 0, true)
		is(t, "most is free", s.frees() >= s.m.Lebs()-4, true)
		idle(t, "Collect again", s.Chip(), func() {
			more, errno := s.Collect()
			is(t, "Collect", fmt.Sprint(more, errno), fmt.Sprint(false, api.OK))
		})
		is(t, "Sync", s.Sync(), api.OK)
		m.held(t, "mounted", mounted(t, s.Chip()))
	}
}

// aged: a store on a chip on which some blocks were erased much more often than others: a wear step has something to do.
func aged(t *testing.T, g api.Geometry) (*Store, model) {
	t.Helper()
	s := formatted(t, chip(t, g))
	m := model{"cold": text(250, 1), "colder": text(250, 2)}
	is(t, "Put", s.Put(m.nodes("", "", 2)), api.OK)
	is(t, "Commit", s.Commit(), api.OK)
	for n := range 5000 {
		m["hot"] = text(200, n)
		is(t, "Put", s.Put(group(put("hot", m["hot"]))), api.OK)
		if n%16 > 0 {
			continue
		}
		is(t, "Sync", s.Sync(), api.OK)
		if moved, _ := mounted(t, s.Chip().Clone()).Wear(); moved {
			return mounted(t, s.Chip()), m
		}
	}
	t.Fatal("nothing to do for Wear")
	return nil, nil
}

// TestWear: the map stays.
func TestWear(t *testing.T) {
	for _, g := range []api.Geometry{small, least} {
		s, m := aged(t, g)
		moves := 0
		for {
			moved, errno := s.Wear()
			is(t, "Wear", errno, api.OK)
			m.held(t, "behind a Wear", s)
			if !moved {
				break
			}
			moves++
		}
		is(t, "there was something to do", moves > 0, true)
		is(t, "Put", s.Put(group(put("x", "y"))), api.OK)
		is(t, "Sync", s.Sync(), api.OK)
		m.with(group(put("x", "y"))).held(t, "mounted", mounted(t, s.Chip()))
	}
}

// TestStepsOnASpentChip: with and without something that waits.
func TestStepsOnASpentChip(t *testing.T) {
	const sync, commit = 1, 2
	for _, c := range []struct {
		ahead, behind int // what is done ahead of a Put and behind it
		want          string
	}{
		{0, 0, fmt.Sprint(api.EROFS, api.EROFS)},
		{commit, 0, fmt.Sprint(api.EROFS, api.EROFS)},
		{0, sync, fmt.Sprint(api.OK, api.EROFS)},
		{0, commit, fmt.Sprint(api.OK, api.OK)},
	} {
		s, m := formatted(t, chip(t, small)), model{"a": "1", "b": "2"}
		do := map[int]func() api.Errno{0: func() api.Errno { return api.OK }, sync: s.Sync, commit: s.Commit}
		is(t, "Put", s.Put(group(put("a", "1"))), api.OK)
		is(t, "ahead", do[c.ahead](), api.OK)
		is(t, "Put", s.Put(group(put("b", "2"))), api.OK)
		is(t, "behind", do[c.behind](), api.OK)
		marked(t, s.Chip(), 3)
		what := fmt.Sprintf("%+v", c)
		readOnly(t, what, s, m)
		is(t, what, fmt.Sprint(s.Sync(), s.Commit()), c.want)
		m.held(t, what, s)
	}
}

// readOnly: what a store on a spent chip answers, whatever waits.
func readOnly(t *testing.T, what string, s *Store, m model) {
	t.Helper()
	idle(t, what, s.Chip(), func() {
		is(t, what+": Spent", s.Spent(), true)
		is(t, what+": Put", s.Put(group(put("a", "3"))), api.EROFS)
		is(t, what+": Put", s.Put(group(gone("a"))), api.EROFS)
		for _, step := range []func() (bool, api.Errno){s.Collect, s.Wear} {
			done, errno := step()
			is(t, what+": a step", fmt.Sprint(done, errno), fmt.Sprint(false, api.EROFS))
		}
	})
	m.held(t, what, s)
}

// TestMountOfASpentChip: what was synced stands there, and stays so.
func TestMountOfASpentChip(t *testing.T) {
	for _, commit := range []bool{false, true} {
		s := formatted(t, chip(t, small))
		is(t, "Put", s.Put(group(put("a", "1"))), api.OK)
		is(t, "Sync", s.Sync(), api.OK)
		want := api.EROFS
		if commit {
			is(t, "Commit", s.Commit(), api.OK)
			want = api.OK
		}
		s = mounted(t, marked(t, s.Chip(), 3))
		readOnly(t, "mounted", s, model{"a": "1"})
		is(t, "Sync", s.Sync(), api.OK)
		is(t, "Commit", s.Commit(), want)
	}
}

// transcript: what a script by chance is answered by Put, Get and Range, with steps between its calls.
func transcript(t *testing.T, c *nand.Chip, seed int64, step func(*Store, int) api.Errno) string {
	t.Helper()
	r := rand.New(rand.NewSource(seed))
	s := formatted(t, c)
	var b strings.Builder
	for n := range 500 {
		is(t, "a step", step(s, n), api.OK)
		key := text(1+n%3, r.Intn(12))
		switch r.Intn(6) {
		case 0:
			value, ok, errno := s.Get(key)
			b.WriteString(fmt.Sprintln(value, ok, errno))
		case 1:
			l, errno := s.Range(key, "", r.Intn(20))
			b.WriteString(fmt.Sprintln(l, errno))
		case 2:
			b.WriteString(fmt.Sprintln(s.Put(group(gone(key)))))
		default:
			b.WriteString(fmt.Sprintln(s.Put(group(put(key, text(r.Intn(api.MaxValue), n)), gone("x")))))
		}
		b.WriteString(fmt.Sprintln(s.Cost()))
	}
	is(t, "Wrong", c.Wrong(), 0)
	return b.String()
}

// patterns: where steps are made.
func patterns(t *testing.T) map[string]func(*Store, int) api.Errno {
	r := rand.New(rand.NewSource(5))
	collect := func(s *Store) (errno api.Errno) { _, errno = s.Collect(); return errno }
	wear := func(s *Store) (errno api.Errno) { _, errno = s.Wear(); return errno }
	some := []func(*Store) api.Errno{(*Store).Sync, (*Store).Commit, collect, wear}
	return map[string]func(*Store, int) api.Errno{
		"Sync":    func(s *Store, _ int) api.Errno { return s.Sync() },
		"Commit":  func(s *Store, _ int) api.Errno { return s.Commit() },
		"Collect": func(s *Store, _ int) api.Errno { return collect(s) },
		"Wear":    func(s *Store, _ int) api.Errno { return wear(s) },
		"now and then": func(s *Store, n int) api.Errno {
			if n%7 != 0 {
				return api.OK
			}
			return some[n/7%4](s)
		},
		"by chance": func(s *Store, _ int) api.Errno {
			for range r.Intn(4) {
				if errno := some[r.Intn(4)](s); errno != api.OK {
					return errno
				}
			}
			return api.OK
		},
		"all": func(s *Store, _ int) api.Errno {
			for _, step := range some {
				if errno := step(s); errno != api.OK {
					return errno
				}
			}
			return api.OK
		},
	}
}

// TestStepsChangeNoAnswer: P1709.
func TestStepsChangeNoAnswer(t *testing.T) {
	for i, g := range append(smallOnes(), middle) {
		want := transcript(t, chip(t, g), int64(i), func(*Store, int) api.Errno { return api.OK })
		for what, step := range patterns(t) {
			if got := transcript(t, chip(t, g), int64(i), step); got != want {
				t.Errorf("%v: with %s the answers are others", g, what)
			}
		}
	}
}
