package cache

import (
	"fmt"
	"maps"
	"slices"
	"strings"
	"testing"

	"pumice/api"
	"pumice/nand"
	"pumice/space"
	"pumice/store"
)

func is[T comparable](t *testing.T, what string, got, want T) {
	t.Helper()
	if got != want {
		t.Errorf("%s: %v, not %v", what, got, want)
	}
}

// The chips: the chapter's; the one with the fewest logical blocks, of the fewest bytes; one without a reserve; a greater one.
var (
	small  = api.Geometry{Blocks: 16, Pages: 16, Page: 128, Reserve: 2}
	least  = api.Geometry{Blocks: 16, Pages: 8, Page: 256, Reserve: 4}
	bare   = api.Geometry{Blocks: 16, Pages: 8, Page: 256, Reserve: 0}
	middle = api.Geometry{Blocks: 40, Pages: 16, Page: 256, Reserve: 6}
	great  = api.Geometry{Blocks: 256, Pages: 64, Page: 512, Reserve: 16}
)

func chip(t *testing.T, g api.Geometry) *nand.Chip {
	t.Helper()
	c, errno := nand.New(g, nil)
	if errno != api.OK {
		t.Fatalf("New of %+v: %v", g, errno)
	}
	return c
}

func arm(t *testing.T, c *nand.Chip, plan ...api.Fault) {
	t.Helper()
	if errno := c.Arm(plan); errno != api.OK {
		t.Fatalf("Arm: %v", errno)
	}
}

// formatted: a cache over a new store of this chip.
func formatted(t *testing.T, c *nand.Chip) *Cache {
	t.Helper()
	s, errno := store.Format(c)
	if errno != api.OK {
		t.Fatalf("Format: %v", errno)
	}
	return New(s)
}

// mounted: a cache over the store that stands on the chip.
func mounted(t *testing.T, c *nand.Chip) *Cache {
	t.Helper()
	s, errno := store.Mount(c)
	if errno != api.OK {
		t.Fatalf("Mount: %v", errno)
	}
	return New(s)
}

// empty: over an empty store of a small chip.
func empty(t *testing.T) *Cache {
	t.Helper()
	return formatted(t, chip(t, small))
}

func put(key, value string) api.Node { return api.Node{Key: key, Value: value} }

func gone(key string) api.Node { return api.Node{Key: key, Gone: true} }

func group(l ...api.Node) []api.Node { return l }

// puts: groups that are OK.
func puts(t *testing.T, x *Cache, groups ...[]api.Node) {
	t.Helper()
	for _, g := range groups {
		is(t, fmt.Sprintf("Put of %.60s", fmt.Sprint(g)), x.Put(g), api.OK)
	}
}

// flushes: so many groups that wait go to the store.
func flushes(t *testing.T, x *Cache, n int) {
	t.Helper()
	for range n {
		more, errno := x.Flush()
		is(t, "Flush", fmt.Sprint(more, errno), fmt.Sprint(true, api.OK))
	}
}

// text: of so many bytes, another one for each number.
func text(size, number int) string {
	word := fmt.Sprint(number, ".")
	return strings.Repeat(word, size/len(word)+1)[:size]
}

// model: a map in memory.
type model map[string]string

func (m model) cost() int {
	total := 0
	for key, value := range m {
		total += space.Node(key, value)
	}
	return total
}

// with: the map behind a group.
func (m model) with(g []api.Node) model {
	m = maps.Clone(m)
	for _, n := range g {
		if n.Gone {
			delete(m, n.Key)
		} else {
			m[n.Key] = n.Value
		}
	}
	return m
}

// answer: what is said of a right group where there is so much room.
func (m model) answer(g []api.Node, limit int) api.Errno {
	if behind := m.with(g).cost(); behind > limit && behind > m.cost() {
		return api.ENOSPC
	}
	return api.OK
}

func (m model) nodes(from, to string, most int) []api.Node {
	var l []api.Node
	for _, key := range slices.Sorted(maps.Keys(m)) {
		if key >= from && (to == "" || key < to) && len(l) < most {
			l = append(l, put(key, m[key]))
		}
	}
	return l
}

// everything: more nodes than any chip has.
const everything = 1 << 40

// mapped: what has a Range: a cache, or a store.
type mapped interface {
	Range(from, to string, most int) ([]api.Node, api.Errno)
}

func ranged(t *testing.T, what string, x mapped, from, to string, most int) []api.Node {
	t.Helper()
	l, errno := x.Range(from, to, most)
	is(t, what+": Range", errno, api.OK)
	return l
}

// ranges: a Range tells these nodes.
func ranges(t *testing.T, what string, x mapped, from, to string, most int, want []api.Node) {
	t.Helper()
	if got := ranged(t, what, x, from, to, most); !slices.Equal(got, want) {
		t.Errorf("%s: Range(%q, %q, %d): %.300s, not %.300s", what, from, to, most, fmt.Sprint(got), fmt.Sprint(want))
	}
}

// whole: the map of a cache, or of a store.
func whole(t *testing.T, what string, x mapped) model {
	t.Helper()
	m := model{}
	for _, n := range ranged(t, what, x, "", "", everything) {
		m[n.Key] = n.Value
	}
	return m
}

// got: what Get answers, as a text.
func got(x *Cache, key string) string {
	value, ok, errno := x.Get(key)
	return fmt.Sprintf("%q %v %d", value, ok, int(errno))
}

// told: how got tells a key's value.
func told(value string) string { return fmt.Sprintf("%q true 0", value) }

const (
	none   = `"" false 0`
	failed = `"" false %d`
)

// held: the cache tells this map, and what stands in memory hangs together.
func (m model) held(t *testing.T, what string, x *Cache) {
	t.Helper()
	ranges(t, what, x, "", "", everything, m.nodes("", "", everything))
	for key, want := range m {
		is(t, fmt.Sprintf("%s: Get(%.20q)", what, key), got(x, key), told(want))
	}
	is(t, what+": Cost", x.Cost(), m.cost())
	is(t, what+": Wrong", x.Store().Chip().Wrong(), 0)
	sound(t, what, x)
}

// sound: what is known of the queue is what stands in it, and nothing of it is kept.
func sound(t *testing.T, what string, x *Cache) {
	t.Helper()
	queued := map[string]change{}
	for _, g := range x.waiting {
		for _, n := range g {
			queued[n.Key] = change{node: n, groups: queued[n.Key].groups + 1}
		}
	}
	keys := slices.Sorted(maps.Keys(queued))
	is(t, what+": changes", len(x.changes), len(keys))
	for i, key := range keys {
		is(t, what+": the change of "+key, x.changes[i], queued[key])
		_, kept := x.kept[key]
		is(t, what+": kept "+key, kept, false)
	}
	if len(keys) == 0 {
		is(t, what+": growth", x.growth, 0)
	}
}

// idle: a call makes no operation of the chip.
func idle(t *testing.T, what string, x *Cache, call func()) {
	t.Helper()
	was := x.Store().Chip().Ops()
	call()
	is(t, what+": operations", x.Store().Chip().Ops()-was, 0)
}
