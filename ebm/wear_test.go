package ebm

import (
	"fmt"
	"math/rand"
	"testing"

	"pumice/api"
	"pumice/header"
	"pumice/nand"
	"pumice/scan"
)

// worn: a chip with these Counts, on which block n has the logical block n, for each that is mapped.
func worn(t *testing.T, counts []int, mapped ...int) *nand.Chip {
	t.Helper()
	c := made(t, small)
	for n, count := range counts {
		lay(t, c, n, count)
	}
	for _, n := range mapped {
		lay(t, c, n, header.Map{Leb: n % smallLebs, Seq: uint64(n)}, fmt.Sprint("p", n), fmt.Sprint("q", n))
	}
	return c
}

// TestWear: which block is moved, to which one.
func TestWear(t *testing.T) {
	const far, near = 3 + api.MaxWear + 1, 3 + api.MaxWear
	for _, x := range []struct {
		name     string
		counts   [16]int
		mapped   []int
		from, to int // -1: nothing is moved
	}{
		{"all Free", [16]int{1, 99}, nil, -1, -1},
		{"as far apart as may be", [16]int{near, 3, near, 3, 5}, []int{1, 3}, -1, -1},
		{"one farther", [16]int{near, 3, far, 5}, []int{1, 3}, 1, 2},
		{"the first of several", [16]int{near, 5, far, 3, 3, far}, []int{1, 3, 4}, 3, 2},
		{"Free ones come last", [16]int{3, 3, 4, 3, 3, 3, 3, 3, 3, 3, 3, 3, near, far, far, near}, []int{2, 5, 6}, 5, 13},
		{"the greatest, not the least", [16]int{far, 3, 1, far + 5, far + 9}, []int{1}, 1, 4},
		{"mapped ones are worn, Free ones are not", [16]int{99, 90, 80}, []int{0, 1, 2}, -1, -1},
		{"mapped ones lie apart", [16]int{99, 3, 80}, []int{0, 1, 2}, -1, -1},
		{"Counts begin at 0", [16]int{0, 9}, []int{0}, 0, 1},
		{"Counts end", [16]int{0, 1<<31 - 1}, []int{0}, 0, 1},
	} {
		c := worn(t, x.counts[:], x.mapped...)
		m := attached(t, c)
		before, ops := looked(t, m), c.Ops()
		moved, errno := m.Wear()
		is(t, x.name, errno, api.OK)
		is(t, x.name, moved, x.from >= 0)
		same(t, x.name+": lebs", looked(t, m), before)
		sound(t, x.name, m)
		if x.from < 0 {
			is(t, x.name+": Ops", c.Ops(), ops)
			continue
		}
		is(t, x.name+": Ops", c.Ops()-ops, 1+2+2)
		is(t, x.name+": where", scan.Find(m.blocks, x.from), x.to)
		same(t, x.name+": the old one", m.blocks[x.from], scan.Block{State: scan.Free, Count: x.counts[x.from] + 1})
		is(t, x.name+": the new one's Count", m.blocks[x.to].Count, x.counts[x.to])
		second, _ := c.Read(x.to, mapPage)
		head, _ := header.ParseMapping(second)
		is(t, x.name+": Pages", head.Pages, 2)
		for range small.Blocks {
			if moved, _ = m.Wear(); !moved {
				break
			}
		}
		is(t, x.name+": at the end", moved, false)
		same(t, x.name+": lebs", looked(t, m), before)
		same(t, x.name+": attached", looked(t, attached(t, c)), before)
	}
}

// TestWearOpens: a closed logical block has no torn page any more where it was moved to; a full and an empty one stay so.
func TestWearOpens(t *testing.T) {
	c := made(t, small)
	lay(t, c, 0, 1, header.Map{Leb: 5, Seq: 7}, "a", "b", "!")
	lay(t, c, 1, 2, header.Map{Leb: 6, Seq: 8})
	lay(t, c, 2, append([]any{3, header.Map{Leb: 7, Seq: 9}}, anys(many("f", smallRoom))...)...)
	lay(t, c, 3, 4, header.Map{Leb: 8, Seq: 10}, "!")
	for n := 4; n < small.Blocks; n++ {
		lay(t, c, n, 20)
	}
	m := attached(t, c)
	want := looked(t, m)
	is(t, "Closed", want[5].closed && want[8].closed, true)
	for i, n := range []int{5, 6, 7, 8} {
		moved, errno := m.Wear()
		is(t, "Wear", errno, api.OK)
		is(t, "Wear", moved, true)
		is(t, "where", scan.Find(m.blocks, n), 4+i)
		want[n].closed = false
		same(t, "lebs", looked(t, m), want)
		sound(t, "Wear", m)
	}
	is(t, "Wear", first(m.Wear()), false)
	is(t, "Write", m.Write(5, []byte("c")), api.OK)
	is(t, "Write", m.Write(8, []byte("c")), api.OK)
	is(t, "Write", m.Write(7, []byte("c")), api.ENOSPC)
	want = want.with(5, leb{pages: text("a", "b", "c")}).with(8, leb{pages: text("c")})
	same(t, "lebs", looked(t, m), want)
	same(t, "attached", looked(t, attached(t, c)), want)
}

// TestWearFails: where the block that was to be written fails, it goes on in one that is taken.
func TestWearFails(t *testing.T) {
	c := worn(t, []int{1, 20, 9, 4, 5, 6, 7, 8, 8, 8, 8, 8, 8, 8, 8, 8}, 0)
	for at := 1; at <= 3; at++ {
		m := attached(t, c.Clone())
		arm(t, m.chip, fails(at)...)
		moved, errno := m.Wear()
		is(t, "Wear", errno, api.OK)
		is(t, "Wear", moved, true)
		is(t, "where", scan.Find(m.blocks, 0), 3)
		is(t, "the one that failed", m.blocks[1].State, scan.Bad)
		is(t, "the old one", m.blocks[0].State, scan.Free)
		sound(t, "Wear", m)
	}
}

// spread: how far the Counts of blocks lie apart. As long as nothing failed, a Count is how often the chip erased the block.
func spread(t *testing.T, m *Manager) int {
	t.Helper()
	least, most := m.blocks[0].Count, 0
	for n, b := range m.blocks {
		least, most = min(least, b.Count), max(most, b.Count)
		if b.Count != m.chip.Erases(n) {
			t.Fatalf("block %d: Count %d, but %d erases", n, b.Count, m.chip.Erases(n))
		}
	}
	return most - least
}

// levelled: Wear, until it says false.
func levelled(t *testing.T, m *Manager) {
	t.Helper()
	for range m.chip.Geometry().Blocks + 1 {
		moved, errno := m.Wear()
		is(t, "Wear", errno, api.OK)
		if !moved {
			return
		}
	}
	t.Error("Wear does not end")
}

// TestWearOfScripts: with Wear behind each call Counts lie at most 2 x MaxWear + 4 apart; without it they would not.
func TestWearOfScripts(t *testing.T) {
	const most = 2*api.MaxWear + 4
	scripts := map[string]func(m *Manager, r *rand.Rand, i int){
		"one is changed":            func(m *Manager, r *rand.Rand, i int) { m.Change(0, nil) },
		"one is let go and written": func(m *Manager, r *rand.Rand, i int) { m.Unmap(m.Lebs() - 1); m.Write(m.Lebs()-1, nil) },
		"some are changed in turn":  func(m *Manager, r *rand.Rand, i int) { m.Change(i%3, cells("a")) },
		"all are changed in turn":   func(m *Manager, r *rand.Rand, i int) { m.Change(i%m.Lebs(), cells("a")) },
		"some, by chance":           func(m *Manager, r *rand.Rand, i int) { m.Change(r.Intn(4), nil) },
		"one more and more": func(m *Manager, r *rand.Rand, i int) {
			if m.Write(1, nil) == api.ENOSPC {
				m.Unmap(1)
			}
		},
		"anything": func(m *Manager, r *rand.Rand, i int) {
			n := r.Intn(1 + r.Intn(m.Lebs()))
			switch r.Intn(3) {
			case 0:
				m.Write(n, nil)
			case 1:
				m.Unmap(n)
			case 2:
				m.Change(n, nil)
			}
		},
	}
	for name, step := range scripts {
		for _, full := range []bool{true, false} {
			m := formatted(t, small)
			for n := range m.Lebs() {
				if full || n < 3 {
					m.Write(n, []byte{byte(n)})
				}
			}
			r := rand.New(rand.NewSource(1))
			for i := range 2000 {
				step(m, r, i)
				levelled(t, m)
				if s := spread(t, m); s > most {
					t.Fatalf("%s: %d apart behind step %d", name, s, i)
				}
			}
			sound(t, name, m)
		}
	}
	m := formatted(t, small)
	for n := range m.Lebs() {
		m.Write(n, nil)
	}
	for range 200 {
		m.Change(0, nil)
	}
	if s := spread(t, m); s <= most {
		t.Errorf("without Wear: %d apart", s)
	}
}
