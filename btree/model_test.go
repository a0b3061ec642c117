package btree

import (
	"math/rand"
	"slices"
	"strings"
	"testing"

	"pumice/api"
)

// model: a sorted list, to which is done what is done to a tree.
type model struct{ l []api.Node }

func (m *model) find(key string) (int, bool) {
	return slices.BinarySearchFunc(m.l, key, func(n api.Node, key string) int { return strings.Compare(n.Key, key) })
}

func (m *model) get(key string) (string, bool) {
	if i, ok := m.find(key); ok {
		return m.l[i].Value, true
	}
	return "", false
}

func (m *model) put(key, value string) {
	i, ok := m.find(key)
	if !ok {
		m.l = slices.Insert(m.l, i, api.Node{})
	}
	m.l[i] = api.Node{Key: key, Value: value}
}

func (m *model) delete(key string) bool {
	i, ok := m.find(key)
	if ok {
		m.l = slices.Delete(m.l, i, i+1)
	}
	return ok
}

func (m *model) ranged(from, to string, most int) []api.Node {
	var out []api.Node
	for _, n := range m.l {
		if n.Key >= from && (to == "" || n.Key < to) && len(out) < most {
			out = append(out, n)
		}
	}
	return out
}

func (m *model) next(key string) (api.Node, bool) {
	for _, n := range m.l {
		if n.Key > key {
			return n, true
		}
	}
	return api.Node{}, false
}

// rowsOf: shapes by their levels, the leaves first, as they say them.
func rowsOf(l []Shape) [][]Shape {
	rows := make([][]Shape, l[0].Level+1)
	for _, s := range l {
		rows[s.Level] = append(rows[s.Level], s)
	}
	return rows
}

// under: the leaves below the node i of a level, told by going down, not as Sound does it.
func under(rows [][]Shape, level, i int) []Shape {
	if level == 0 {
		return rows[0][i : i+1]
	}
	at := 0
	for _, s := range rows[level][:i] {
		at += len(s.Keys)
	}
	var out []Shape
	for k := range rows[level][i].Keys {
		out = append(out, under(rows, level-1, at+k)...)
	}
	return out
}

// hangs: what the chapter's words ask of a tree, each word by itself; what is wrong.
func hangs(l []Shape, fan int) string {
	rows := rowsOf(l)
	for level, row := range rows {
		for _, s := range row {
			if wrong := fills(s, fan, level == len(rows)-1); wrong != "" {
				return wrong
			}
		}
		if level > 0 && len(rows[level-1]) != count(row) {
			return "not as many nodes as keys above"
		}
	}
	if len(rows[len(rows)-1]) != 1 {
		return "more than one root"
	}
	for level := 1; level < len(rows); level++ {
		kid := 0
		for _, s := range rows[level] {
			for _, key := range s.Keys {
				if rows[level-1][kid].Dirty && !s.Dirty {
					return "a clean node above a dirty one"
				}
				if wrong := parts(rows, level-1, kid, key); wrong != "" {
					return wrong
				}
				kid++
			}
		}
	}
	return ""
}

// fills: what is wrong with a node's own keys.
func fills(s Shape, fan int, root bool) string {
	switch {
	case len(s.Keys) > fan:
		return "too full"
	case !root && len(s.Keys) < fan/2:
		return "too empty"
	case root && s.Level > 0 && len(s.Keys) < 2:
		return "a root of less than two"
	case !slices.IsSorted(s.Keys) || len(slices.Compact(slices.Clone(s.Keys))) != len(s.Keys):
		return "keys that do not rise"
	}
	return ""
}

// parts: what is wrong with the key above a node of a level.
func parts(rows [][]Shape, level, i int, key string) string {
	for j := range i {
		for _, leaf := range under(rows, level, j) {
			if slices.Max(leaf.Keys) >= key {
				return "a key that is not greater than all ahead"
			}
		}
	}
	for _, leaf := range under(rows, level, i) {
		if slices.Min(leaf.Keys) < key {
			return "a key that is greater than one below"
		}
	}
	return ""
}

// divided: how many times n can be divided, till nothing is left.
func divided(n, by int) int {
	times := 0
	for n > 0 {
		n /= by
		times++
	}
	return times
}

// held: P801 to P803: the tree against the list.
func held(t *testing.T, what string, x *Tree, m *model, fan int) {
	t.Helper()
	if got := x.Range("", "", len(m.l)+1); !slices.Equal(got, m.l) {
		t.Fatalf("%s: Range: %+v, not %+v", what, got, m.l)
	}
	if x.Len() != len(m.l) {
		t.Fatalf("%s: Len %d, not %d", what, x.Len(), len(m.l))
	}
	l := x.Shapes()
	if !Sound(l, fan) {
		t.Fatalf("%s: not Sound: %+v", what, l)
	}
	var keys []string
	for _, s := range l {
		if s.Level == 0 {
			keys = append(keys, s.Keys...)
		}
	}
	if !slices.EqualFunc(keys, m.l, func(key string, n api.Node) bool { return key == n.Key }) {
		t.Fatalf("%s: the leaves' keys: %q, not those of %+v", what, keys, m.l)
	}
	if x.Height() != l[0].Level+1 {
		t.Fatalf("%s: Height %d of a root at the level %d", what, x.Height(), l[0].Level)
	}
	if most := 1 + divided(len(m.l), fan/2); x.Height() > most {
		t.Fatalf("%s: Height %d of %d keys, above %d", what, x.Height(), len(m.l), most)
	}
}

// dirtied: how many nodes are dirty on each level.
func dirtied(x *Tree) []int {
	counts := make([]int, x.Height())
	for _, s := range x.Shapes() {
		if s.Dirty {
			counts[s.Level]++
		}
	}
	return counts
}

// little: P804: behind Clean, a change, and what it made dirty. Nodes that are not dirty stood there before.
func little(t *testing.T, what string, x *Tree, was []Shape) {
	t.Helper()
	levels, sum := was[0].Level+1, 0
	for level, n := range dirtied(x) {
		sum += n
		if level < levels && n > 3 || level == levels && n > 1 || level > levels {
			t.Fatalf("%s: %d dirty on the level %d of %d", what, n, level, levels)
		}
	}
	old := map[string]bool{}
	for _, s := range was {
		old[label(s)] = true
	}
	for _, s := range x.Shapes() {
		if !s.Dirty && !old[label(s)] {
			t.Fatalf("%s: %+v was not there, but is not dirty", what, s)
		}
	}
	if n := x.Clean(); n != sum {
		t.Fatalf("%s: Clean says %d of %d", what, n, sum)
	}
	if slices.Max(dirtied(x)) > 0 {
		t.Fatalf("%s: dirty behind Clean", what)
	}
}

// label: unlike ones of unlike nodes.
func label(s Shape) string {
	b := []byte{byte(s.Level)}
	for _, key := range s.Keys {
		b = append(b, byte(len(key)))
		b = append(b, key...)
	}
	return string(b)
}

// chance: a key of a few, so that many are met again; of one to three bytes, some above 127; now and then none that can be.
func chance(r *rand.Rand, span int) string {
	n := r.Intn(span)
	if n == 7 {
		return ""
	}
	k := []byte{byte(n >> 8), byte(n)}
	if n%3 == 0 {
		k = append(k, byte(n))
	}
	return strings.TrimPrefix(string(k), "\x00")
}

// step: one call by chance on both, with what they answer, and what is dirty behind it.
func step(t *testing.T, r *rand.Rand, x *Tree, m *model, span, puts int) {
	t.Helper()
	key, was := chance(r, span), x.Shapes()
	old, there := m.get(key)
	switch n := r.Intn(12); {
	case n < puts:
		value := string(rune('a' + r.Intn(3)))
		is(t, "Put", x.Put(key, value), wanted(key))
		if wanted(key) == api.OK {
			m.put(key, value)
		}
		is(t, "dirty behind Put", slices.Max(dirtied(x)) > 0, wanted(key) == api.OK && (!there || old != value))
	case n < 10:
		is(t, "Delete", x.Delete(key), m.delete(key))
		is(t, "dirty behind Delete", slices.Max(dirtied(x)) > 0, there)
	default:
		look(t, r, x, m, span)
		is(t, "dirty behind looks", slices.Max(dirtied(x)), 0)
	}
	little(t, "a step", x, was)
}

func wanted(key string) api.Errno {
	if key == "" {
		return api.EINVAL
	}
	return api.OK
}

func look(t *testing.T, r *rand.Rand, x *Tree, m *model, span int) {
	t.Helper()
	key, to, most := chance(r, span), chance(r, span), r.Intn(20)-2
	v, ok := x.Get(key)
	want, there := m.get(key)
	is(t, "Get", v, want)
	is(t, "Get", ok, there)
	same(t, "Range", x.Range(key, to, most), m.ranged(key, to, most))
	n, ok := x.Next(key)
	next, more := m.next(key)
	is(t, "Next", n, next)
	is(t, "Next", ok, more)
}

// P801 to P804: whatever is done, by chance: first more is put than taken out, then the other way round.
func TestAgainstModel(t *testing.T) {
	for _, c := range []struct{ fan, span, steps int }{
		{4, 30, 500}, {4, 300, 500}, {5, 30, 500}, {5, 300, 500}, {6, 200, 500}, {7, 200, 500},
		{8, 300, 500}, {9, 300, 500}, {31, 600, 700}, {63, 1000, 1000}, {64, 1000, 1000},
	} {
		for seed := range int64(2) {
			r := rand.New(rand.NewSource(seed))
			x, m := empty(t, c.fan), &model{}
			x.Clean()
			most := 0
			for _, puts := range []int{9, 2, 6, 1} {
				for i := range c.steps {
					step(t, r, x, m, c.span, puts)
					if t.Failed() {
						t.Fatalf("fan %d, span %d, seed %d, step %d", c.fan, c.span, seed, i)
					}
					if i%7 == 0 {
						held(t, "behind a step", x, m, c.fan)
					}
				}
				most = max(most, x.Height())
			}
			if most < 2 {
				t.Errorf("fan %d, span %d, seed %d: the chance is badly laid", c.fan, c.span, seed)
			}
		}
	}
}

// orders: the ways in which the keys of a list may come.
func orders(keys []string) map[string][]string {
	turned, mixed, inward := slices.Clone(keys), slices.Clone(keys), []string{}
	slices.Reverse(turned)
	rand.New(rand.NewSource(1)).Shuffle(len(mixed), func(i, j int) { mixed[i], mixed[j] = mixed[j], mixed[i] })
	for i := range keys {
		if i%2 == 0 {
			inward = append(inward, keys[i/2])
		} else {
			inward = append(inward, keys[len(keys)-1-i/2])
		}
	}
	return map[string][]string{"in order": keys, "turned": turned, "mixed": mixed, "inward": inward}
}

// P801 to P804: keys are put in an order till the tree has several levels, and taken out in an order, to the last one.
func TestOrders(t *testing.T) {
	for _, c := range []struct{ fan, n, height int }{{4, 90, 4}, {5, 90, 3}, {6, 120, 3}, {7, 150, 3}, {63, 300, 2}, {64, 300, 2}} {
		keys := numbered(c.n)
		for in, coming := range orders(keys) {
			for out, going := range orders(keys) {
				x, m := empty(t, c.fan), &model{}
				x.Clean()
				for _, k := range coming {
					was := x.Shapes()
					is(t, "Put", x.Put(k, valued(k)), api.OK)
					m.put(k, valued(k))
					held(t, in, x, m, c.fan)
					little(t, in, x, was)
				}
				is(t, "the levels are enough", x.Height() >= c.height, true)
				for _, k := range going {
					was := x.Shapes()
					is(t, "Delete", x.Delete(k), true)
					m.delete(k)
					held(t, in+", "+out, x, m, c.fan)
					little(t, in+", "+out, x, was)
				}
				is(t, "Height at the end", x.Height(), 1)
				is(t, "nodes at the end", len(x.Shapes()), 1)
			}
		}
	}
}

// P802, held against the chapter's words without Sound.
func TestWords(t *testing.T) {
	for _, fan := range []int{4, 5, 6, 7} {
		for in, coming := range orders(numbered(70)) {
			x := empty(t, fan)
			check := func(what string) {
				t.Helper()
				if wrong := hangs(x.Shapes(), fan); wrong != "" {
					t.Fatalf("fan %d, %s, %s: %s: %+v", fan, in, what, wrong, x.Shapes())
				}
			}
			for i, k := range coming {
				put(t, x, k)
				check("Put")
				if i%3 == 0 {
					x.Clean()
				}
			}
			for i, k := range orders(coming)["mixed"] {
				x.Delete(k)
				check("Delete")
				if i%3 == 0 {
					x.Clean()
				}
			}
		}
	}
}

// P803: also a tree from which most was taken out again is low.
func TestHeight(t *testing.T) {
	for _, fan := range []int{4, 5, 8, 64} {
		keys := numbered(2000)
		x := tree(t, fan, keys...)
		is(t, "the height of many", x.Height() >= 2, true)
		left := len(keys)
		for i, k := range keys {
			if i%100 == 50 {
				continue
			}
			is(t, "Delete", x.Delete(k), true)
			left--
			if most := 1 + divided(left, fan/2); x.Height() > most {
				t.Fatalf("fan %d: Height %d of %d keys, above %d", fan, x.Height(), left, most)
			}
		}
		is(t, "Len", x.Len(), 20)
	}
	for _, c := range []struct{ n, by, want int }{{0, 2, 0}, {1, 2, 1}, {2, 2, 2}, {5, 2, 3}, {31, 32, 1}, {32, 32, 2}} {
		is(t, "divided", divided(c.n, c.by), c.want)
	}
}

// P804: a value alone makes the way down to it dirty, and nothing more; so does nothing what changes nothing.
func TestDirty(t *testing.T) {
	for _, fan := range []int{4, 5, 16, 64} {
		keys := numbered(500)
		x := tree(t, fan, keys...)
		is(t, "Clean of a new tree", x.Clean(), len(x.Shapes()))
		is(t, "Clean again", x.Clean(), 0)
		for _, k := range keys {
			is(t, "Put of the same", x.Put(k, valued(k)), api.OK)
			is(t, "Delete of what is not there", x.Delete(k+"\x00"), false)
			is(t, "Put of what can't be", x.Put(k, strings.Repeat("v", api.MaxValue+1)), api.EINVAL)
			x.Get(k)
			x.Next(k)
			x.Range(k, "", 9)
			x.Len()
			x.Height()
			x.Shapes()
			x.Clone().Put(k, "other")
		}
		is(t, "Clean behind looks", x.Clean(), 0)
		for _, k := range keys {
			is(t, "Put of another value", x.Put(k, "other"), api.OK)
			for _, n := range dirtied(x) {
				is(t, "dirty on a level", n, 1)
			}
			for _, s := range x.Shapes() {
				if s.Level == 0 {
					is(t, "the leaf with the key is dirty", s.Dirty, slices.Contains(s.Keys, k))
				}
			}
			is(t, "Clean", x.Clean(), x.Height())
		}
		x.Put(keys[0], "1")
		x.Put(keys[499], "1")
		is(t, "Clean behind both ends", x.Clean(), 2*x.Height()-1)
	}
}
