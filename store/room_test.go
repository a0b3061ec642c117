package store

import (
	"fmt"
	"math/rand"
	"testing"

	"pumice/api"
	"pumice/ebm"
	"pumice/image"
	"pumice/index"
	"pumice/journal"
	"pumice/master"
	"pumice/nand"
	"pumice/space"
)

// sizes: of nodes, of extreme and of middle ones.
func sizes() [][2]int {
	return [][2]int{{2, 0}, {2, 20}, {2, api.MaxValue}, {api.MaxKey, 0}, {api.MaxKey, api.MaxValue}, {20, 100}}
}

// sized: the node number n, with a key and a value of such sizes.
func sized(n int, size [2]int, value int) api.Node {
	key := []byte(text(size[0], n))
	key[0], key[1] = byte(n), byte(n>>8)
	return put(string(key), text(size[1], value))
}

// filled: a store with nodes of a size, until there is no room.
func filled(t *testing.T, s *Store, size [2]int) model {
	t.Helper()
	m := model{}
	for n := 0; ; n++ {
		g := group(sized(n, size, n))
		want := m.answer(g, s.Limit())
		is(t, fmt.Sprint("Put ", n), s.Put(g), want)
		if want != api.OK {
			return m
		}
		m = m.with(g)
	}
}

// TestFull: P1706: a map that is filled loses nothing, things may be taken out, and then it takes as much again.
func TestFull(t *testing.T) {
	for _, g := range append(smallOnes(), middle) {
		for _, size := range sizes() {
			s := formatted(t, chip(t, g))
			for round := range 4 {
				what := fmt.Sprint(g, size, " round ", round)
				m := filled(t, s, size)
				is(t, what+": nodes", len(m), s.Limit()/space.Node(text(size[0], 1), text(size[1], 1)))
				m.held(t, what, s)
				if round%2 == 1 {
					is(t, what+": Sync", s.Sync(), api.OK)
					s = mounted(t, s.Chip())
					m.held(t, what+", mounted", s)
				}
				for n := range len(m) {
					is(t, what+": taken out", s.Put(group(gone(sized(n, size, 0).Key))), api.OK)
				}
				model{}.held(t, what+", emptied", s)
			}
		}
	}
}

// TestAtTheLimit: ENOSPC comes just where Cost would be above Limit, and greater than it is; nothing changes then.
func TestAtTheLimit(t *testing.T) {
	for _, g := range append(smallOnes(), middle) {
		s := formatted(t, chip(t, g))
		m := filled(t, s, [2]int{2, 0})
		// What is left is less than a node's cost: a value takes it.
		left := s.Limit() - s.Cost()
		first := sized(0, [2]int{2, left}, 1)
		do := func(what string, want api.Errno, l ...api.Node) {
			t.Helper()
			is(t, what, s.Put(l), want)
			if want == api.OK {
				m = m.with(l)
			}
			m.held(t, what, s)
		}
		if left > 0 {
			do("one byte less", api.OK, put(first.Key, first.Value[1:]))
		}
		do("just the limit", api.OK, first)
		is(t, "Cost", s.Cost(), s.Limit())
		do("one byte more", api.ENOSPC, put(first.Key, first.Value+"x"))
		do("a node more", api.ENOSPC, put("n", ""))
		do("one byte more, and one less", api.OK, put(first.Key, first.Value+"x"), gone(sized(1, [2]int{2, 0}, 0).Key))
		do("the same again", api.OK, put(first.Key, first.Value+"x"))
		do("nothing", api.OK, gone("nothing"))
		do("back", api.OK, put(first.Key, first.Value))
		do("two in", api.ENOSPC, put("n", ""), put("o", ""))
		do("two in, one out", api.OK, put("n", ""), put("o", ""), gone(sized(2, [2]int{2, 0}, 0).Key))
		is(t, "Sync", s.Sync(), api.OK)
		m.held(t, "mounted", mounted(t, s.Chip()))
	}
}

// above: a store whose map costs more than the limit. None comes to that by itself, but it may stand on a chip.
func above(t *testing.T) (*Store, model) {
	t.Helper()
	c := chip(t, small)
	m, errno := ebm.Format(c)
	is(t, "ebm.Format", errno, api.OK)
	j, x, want := journal.New(m, 3), index.New(m), model{}
	is(t, "Add", j.Add(5), api.OK)
	for n := 0; want.cost() <= space.Limit(small); n++ {
		g := group(sized(n, [2]int{20, 0}, n))
		places, errno := j.Append(g)
		is(t, "Append", errno, api.OK)
		slot := slotOf(g[0], places[0])
		is(t, "index.Put", x.Put(slot.Key, slot.At), api.OK)
		want = want.with(g)
	}
	is(t, "Sync", j.Sync(), api.OK)
	root, _, errno := x.Commit([]int{2, 3})
	is(t, "Commit", errno, api.OK)
	_, errno = master.Create(m, master.Record{Epoch: 4, Text: packed(root)})
	is(t, "Create", errno, api.OK)
	return mounted(t, c), want
}

// TestAboveTheLimit: a group that costs no more than what stood there is done nevertheless.
func TestAboveTheLimit(t *testing.T) {
	s, m := above(t)
	is(t, "Cost is above Limit", s.Cost() > s.Limit(), true)
	for _, c := range []struct {
		g    []api.Node
		want api.Errno
	}{
		{group(put("new", "")), api.ENOSPC},
		{group(sized(0, [2]int{20, 1}, 1)), api.ENOSPC},
		{group(sized(0, [2]int{20, 0}, 1)), api.OK},
		{group(gone("nothing")), api.OK},
		{group(sized(0, [2]int{20, 50}, 1), gone(sized(1, [2]int{20, 0}, 0).Key)), api.OK},
		{group(put("new", ""), gone(sized(1, [2]int{20, 0}, 0).Key)), api.ENOSPC},
		{group(gone(sized(2, [2]int{20, 0}, 0).Key)), api.OK},
	} {
		is(t, fmt.Sprint("Put of ", c.g), s.Put(c.g), c.want)
		if c.want == api.OK {
			m = m.with(c.g)
		}
		m.held(t, "above the limit", s)
	}
}

// TestOneKeyOverAndOver: many times as often as the chip has pages, on an empty map and on a full one.
func TestOneKeyOverAndOver(t *testing.T) {
	for _, g := range smallOnes() {
		for _, full := range []bool{false, true} {
			for _, every := range []int{0, 1, 5} {
				s, m := formatted(t, chip(t, g)), model{}
				is(t, "Put", s.Put(group(put("k", ""))), api.OK)
				if full {
					m = filledBeside(t, s)
				}
				room := min(s.Limit()-s.Cost(), api.MaxValue)
				for n := range 20 * g.Blocks * g.Pages / (1 + 3*every) {
					value := text(n%(room+1), n)
					frugal(t, "Put", s.Chip(), func() { is(t, "Put", s.Put(group(put("k", value))), api.OK) })
					m["k"] = value
					if every > 0 && n%every == 0 {
						is(t, "Sync", s.Sync(), api.OK)
					}
				}
				m.held(t, fmt.Sprint(g, full, every), s)
				is(t, "Sync", s.Sync(), api.OK)
				m.held(t, "mounted", mounted(t, s.Chip()))
				if t.Failed() {
					t.FailNow()
				}
			}
		}
	}
}

// filledBeside: fills what is left beside the key k.
func filledBeside(t *testing.T, s *Store) model {
	t.Helper()
	m := model{"k": ""}
	for n := 0; ; n++ {
		g := group(sized(n, [2]int{9, 40}, n))
		if s.Put(g) != api.OK {
			return m
		}
		m = m.with(g)
	}
}

// TestFullAndChanging: a map at its limit whose nodes are put again and again, in any order, with commits between or without: there is always room.
func TestFullAndChanging(t *testing.T) {
	for i, g := range append(smallOnes(), middle) {
		for _, size := range sizes() {
			for _, every := range []int{0, 1, 9} {
				r := rand.New(rand.NewSource(int64(i)))
				s := formatted(t, chip(t, g))
				m := filled(t, s, size)
				what := fmt.Sprint(g, size, every)
				for n := range 250 {
					g := group(sized(r.Intn(len(m)), size, n))
					if n%17 == 0 {
						s = mounted(t, s.Chip()) // what was not synced is gone
						m = whole(t, s)
						if _, ok := m[g[0].Key]; !ok {
							continue
						}
					}
					frugal(t, what, s.Chip(), func() { is(t, what+": Put", s.Put(g), api.OK) })
					m = m.with(g)
					if every > 0 && n%every == 0 {
						frugal(t, what, s.Chip(), func() { is(t, what+": Commit", s.Commit(), api.OK) })
					}
					sound(t, what, s)
				}
				m.held(t, what, s)
				if t.Failed() {
					t.FailNow()
				}
			}
		}
	}
}

// TestGreatGroups: groups that fill nearly a logical block each.
func TestGreatGroups(t *testing.T) {
	for _, g := range append(smallOnes(), middle) {
		s, m := formatted(t, chip(t, g)), model{}
		var big []api.Node
		for n := range 4 {
			big = append(big, put(text(15, n), text(api.MaxValue, n)))
		}
		for n := range 200 {
			for i := range big {
				big[i].Value = text(api.MaxValue-i, n+i)
			}
			want := m.answer(big, s.Limit())
			is(t, fmt.Sprint(g, " Put"), s.Put(big), want)
			if want == api.OK {
				m = m.with(big)
			}
			is(t, "Put", s.Put(group(gone(big[n%4].Key))), api.OK)
			m = m.with(group(gone(big[n%4].Key)))
		}
		m.held(t, fmt.Sprint(g), s)
	}
}

// TestKept: on every chip there is more than what two checkpoints take, so that behind one there is room for something.
func TestKept(t *testing.T) {
	for blocks := api.MinBlocks; blocks <= api.MaxBlocks; blocks++ {
		for reserve := 0; reserve <= blocks/4; reserve++ {
			for pages := api.MinPages; pages <= api.MaxPages; pages *= 2 {
				for page := api.MinPage; page <= api.MaxPage; page *= 2 {
					g := api.Geometry{Blocks: blocks, Pages: pages, Page: page, Reserve: reserve}
					if !nand.Right(g) {
						continue
					}
					others := space.Lebs(g) - 1
					if kept(g)+1 > growth(g) || growth(g) > others-kept(g) {
						t.Fatalf("%+v: of %d logical blocks %d are kept, and %d to be free", g, others, kept(g), growth(g))
					}
				}
			}
		}
	}
}

// TestCheckpointsTakeNoMore: the frames of nodes and of their index have no more bytes than the nodes cost, and so take no more logs than are kept.
func TestCheckpointsTakeNoMore(t *testing.T) {
	r := rand.New(rand.NewSource(3))
	for i := range 3000 {
		g := smallOnes()[i%len(smallOnes())]
		longest, most := 1+r.Intn(api.MaxKey), r.Intn(api.MaxValue+1)
		m, cost, frames := model{}, 0, 0
		var keys []string
		for n := 0; ; n++ {
			node := sized(n, [2]int{2, r.Intn(most + 1)}, n)
			if n%(1+r.Intn(9)) == 0 {
				node.Key += text(longest-1, n)[:min(longest-1, api.MaxKey-2)]
			}
			if cost += space.Node(node.Key, node.Value); cost > space.Limit(g) {
				break
			}
			m[node.Key] = node.Value
			frames += bareBytes + len(node.Key) + len(node.Value)
		}
		for _, n := range m.nodes("", "", everything) {
			keys = append(keys, n.Key)
		}
		tree := image.Bound(keys) + len(keys)
		if frames+tree > m.cost() || logs(g, frames)+logs(g, tree) > kept(g) {
			t.Errorf("%+v: %d nodes that cost %d have frames of %d bytes and an index of %d", g, len(m), m.cost(), frames, tree)
		}
	}
}
