package store

import (
	"fmt"
	"maps"
	"slices"
	"strings"
	"testing"

	"pumice/api"
	"pumice/nand"
	"pumice/space"
)

func is[T comparable](t *testing.T, what string, got, want T) {
	t.Helper()
	if got != want {
		t.Errorf("%s: %v, not %v", what, got, want)
	}
}

// The chips: the chapter's; those with the fewest logical blocks, of the fewest bytes, in few and in many pages; one with one logical block more, one without a reserve; greater ones.
var (
	small  = api.Geometry{Blocks: 16, Pages: 16, Page: 128, Reserve: 2}
	least  = api.Geometry{Blocks: 16, Pages: 8, Page: 256, Reserve: 4}
	thin   = api.Geometry{Blocks: 16, Pages: 32, Page: 64, Reserve: 4}
	odd    = api.Geometry{Blocks: 16, Pages: 8, Page: 256, Reserve: 3}
	bare   = api.Geometry{Blocks: 16, Pages: 8, Page: 256, Reserve: 0}
	middle = api.Geometry{Blocks: 40, Pages: 16, Page: 256, Reserve: 6}
	great  = api.Geometry{Blocks: 256, Pages: 64, Page: 512, Reserve: 64}
)

func smallOnes() []api.Geometry { return []api.Geometry{small, least, thin, odd, bare} }

func chip(t *testing.T, g api.Geometry) *nand.Chip {
	t.Helper()
	c, errno := nand.New(g, nil)
	if errno != api.OK {
		t.Fatalf("New of %+v: %v", g, errno)
	}
	return c
}

func arm(t *testing.T, c *nand.Chip, plan ...api.Fault) {
	t.Helper()
	if errno := c.Arm(plan); errno != api.OK {
		t.Fatalf("Arm: %v", errno)
	}
}

func formatted(t *testing.T, c *nand.Chip) *Store {
	t.Helper()
	s, errno := Format(c)
	if errno != api.OK || s == nil {
		t.Fatalf("Format: %v", errno)
	}
	return s
}

func mounted(t *testing.T, c *nand.Chip) *Store {
	t.Helper()
	s, errno := Mount(c)
	if errno != api.OK || s == nil {
		t.Fatalf("Mount: %v", errno)
	}
	return s
}

func put(key, value string) api.Node { return api.Node{Key: key, Value: value} }

func gone(key string) api.Node { return api.Node{Key: key, Gone: true} }

func group(l ...api.Node) []api.Node { return l }

// text: of so many bytes, another one for each number.
func text(size, number int) string {
	word := fmt.Sprint(number, ".")
	return strings.Repeat(word, size/len(word)+1)[:size]
}

// model: a map in memory.
type model map[string]string

func (m model) cost() int {
	total := 0
	for key, value := range m {
		total += space.Node(key, value)
	}
	return total
}

// with: the map behind a group.
func (m model) with(g []api.Node) model {
	m = maps.Clone(m)
	for _, n := range g {
		if n.Gone {
			delete(m, n.Key)
		} else {
			m[n.Key] = n.Value
		}
	}
	return m
}

// answer: what a store with so much room says of a right group.
func (m model) answer(g []api.Node, limit int) api.Errno {
	if behind := m.with(g).cost(); behind > limit && behind > m.cost() {
		return api.ENOSPC
	}
	return api.OK
}

func (m model) nodes(from, to string, most int) []api.Node {
	var l []api.Node
	for _, key := range slices.Sorted(maps.Keys(m)) {
		if key >= from && (to == "" || key < to) && len(l) < most {
			l = append(l, put(key, m[key]))
		}
	}
	return l
}

// everything: more nodes than any chip has.
const everything = 1 << 40

func ranged(t *testing.T, s *Store, from, to string, most int) []api.Node {
	t.Helper()
	l, errno := s.Range(from, to, most)
	is(t, "Range", errno, api.OK)
	return l
}

// whole: a store's map.
func whole(t *testing.T, s *Store) model {
	t.Helper()
	m := model{}
	for _, n := range ranged(t, s, "", "", everything) {
		m[n.Key] = n.Value
	}
	return m
}

// held: the store tells this map.
func (m model) held(t *testing.T, what string, s *Store) {
	t.Helper()
	if got, want := ranged(t, s, "", "", everything), m.nodes("", "", everything); !slices.Equal(got, want) {
		t.Fatalf("%s: the map is %.300s, not %.300s", what, fmt.Sprint(got), fmt.Sprint(want))
	}
	for key, want := range m {
		value, ok, errno := s.Get(key)
		if value != want || !ok || errno != api.OK {
			t.Fatalf("%s: Get(%q): %q, %v, %v, not %q", what, key, value, ok, errno, want)
		}
	}
	is(t, what+": Cost", s.Cost(), m.cost())
	is(t, what+": Wrong", s.Chip().Wrong(), 0)
	sound(t, what, s)
}

// sound: what P1706 hangs on: so many logical blocks are free as a checkpoint may need, and the book tells what the index does.
func sound(t *testing.T, what string, s *Store) {
	t.Helper()
	if s.frees() < kept(s.geometry()) {
		t.Errorf("%s: %d logical blocks are free, of %d that are kept", what, s.frees(), kept(s.geometry()))
	}
	live := map[int]int{}
	slots, err := s.slots()
	is(t, what+": slots", err, nil)
	for _, slot := range slots {
		live[slot.At.Leb] += slot.At.Size
	}
	for leb := range s.m.Lebs() {
		b, _ := s.book.Block(leb)
		is(t, fmt.Sprint(what, ": live bytes of ", leb), b.Live, live[leb])
	}
}

// frugal: a call makes no more operations than it may.
func frugal(t *testing.T, what string, c *nand.Chip, call func()) {
	t.Helper()
	was := c.Ops()
	call()
	if n := c.Ops() - was; n > space.Most(c.Geometry()) {
		t.Errorf("%s: %d operations", what, n)
	}
}

// idle: a call makes no operation.
func idle(t *testing.T, what string, c *nand.Chip, call func()) {
	t.Helper()
	was := c.Ops()
	call()
	is(t, what+": operations", c.Ops()-was, 0)
}
