package space

import (
	"fmt"
	"math"
	"math/rand"
	"slices"
	"strings"
	"testing"

	"pumice/api"
	"pumice/node"
)

func put(key, value string) api.Node { return api.Node{Key: key, Value: value} }
func gone(key string) api.Node       { return api.Node{Key: key, Gone: true} }

func changes(t *testing.T, what string, l, g []api.Node, ahead, behind int) {
	t.Helper()
	a, b := Change(l, g)
	if a != ahead || b != behind {
		t.Errorf("%s: %d, %d, not %d, %d", what, a, b, ahead, behind)
	}
}

// two: a: 1, b: 2, as the chapter has them: 67 each.
func two() []api.Node { return []api.Node{put("a", "1"), put("b", "2")} }

// F16.3

func TestChange(t *testing.T) {
	for _, c := range []struct {
		what          string
		l, g          []api.Node
		ahead, behind int
	}{
		{"the chapter's", two(), []api.Node{gone("a"), put("c", "33")}, 134, 135},
		{"nothing", nil, nil, 0, 0},
		{"empty lists", []api.Node{}, []api.Node{}, 0, 0},
		{"an empty l", nil, []api.Node{put("c", "33"), gone("a")}, 0, 68},
		{"an empty g", two(), nil, 134, 134},
		{"where none stood", two(), []api.Node{put("0", ""), put("aa", "1"), put("c", "33")}, 134, 134 + 66 + 69 + 68},
		{"over others, greater", two(), []api.Node{put("a", "1234")}, 134, 137},
		{"over others, lesser", two(), []api.Node{put("b", "")}, 134, 133},
		{"over others, alike", two(), []api.Node{put("b", "3")}, 134, 134},
		{"over all", two(), []api.Node{put("b", "33"), put("a", "")}, 134, 134},
		{"taken out", two(), []api.Node{gone("b")}, 134, 67},
		{"all taken out", two(), []api.Node{gone("b"), gone("a")}, 134, 0},
		{"taken out where none stood", two(), []api.Node{gone("c"), gone(""), gone("aa")}, 134, 134},
		{"taken out of nothing", nil, []api.Node{gone("a")}, 0, 0},
		{"taken out with a value", two(), []api.Node{{Key: "a", Value: "12345", Gone: true}}, 134, 67},
		{"one key several times", two(), []api.Node{put("c", "1"), put("c", "12345"), put("c", "12")}, 134, 134 + 68},
		{"put in and taken out", two(), []api.Node{put("c", "1"), gone("c")}, 134, 134},
		{"taken out and put in", two(), []api.Node{gone("a"), put("a", "")}, 134, 133},
		{"in turn, there at the end", two(), []api.Node{gone("a"), put("a", "22"), gone("a"), gone("a"), put("a", "333")}, 134, 136},
		{"in turn, gone at the end", two(), []api.Node{put("a", "22"), gone("a"), put("a", "333"), gone("a")}, 134, 67},
		{"in turn, others between", two(), []api.Node{put("c", "1"), gone("b"), put("c", "22"), put("b", ""), gone("c")}, 134, 133},
		{"an empty key", []api.Node{put("", "1")}, []api.Node{put("", "")}, 65, 64},
		{"keys of which one begins the other", []api.Node{put("a", ""), put("ab", "")}, []api.Node{gone("a")}, 134, 68},
	} {
		changes(t, c.what, c.l, c.g, c.ahead, c.behind)
	}
}

func TestChangeOfOtherLists(t *testing.T) {
	for _, c := range []struct {
		what          string
		l, g          []api.Node
		ahead, behind int
	}{
		{"not in order", []api.Node{put("b", "2"), put("a", "1")}, []api.Node{gone("b")}, 134, 67},
		{"not in order, put over", []api.Node{put("c", "2"), put("a", "1"), put("b", "")}, []api.Node{put("a", "")}, 200, 199},
		{"one key twice", []api.Node{put("a", "1"), put("a", "1")}, nil, 67, 67},
		{"the last one is greater", []api.Node{put("a", "1"), put("a", "1234")}, nil, 70, 70},
		{"the last one is lesser", []api.Node{put("a", "1234"), put("a", "1")}, []api.Node{put("b", "")}, 67, 133},
		{"others between", []api.Node{put("a", "1234"), put("b", "2"), put("a", "")}, []api.Node{put("a", "1")}, 133, 134},
		{"the last one is Gone", []api.Node{put("a", "1"), put("b", "2"), gone("a")}, []api.Node{put("c", "")}, 67, 133},
		{"the last one is Gone, and is put in", []api.Node{put("a", "1"), gone("a")}, []api.Node{put("a", "22")}, 0, 68},
		{"the last one is Gone, and is taken out", []api.Node{put("a", "1"), gone("a"), put("b", "")}, []api.Node{gone("a")}, 66, 66},
		{"the last one is not Gone", []api.Node{gone("a"), put("a", "1")}, []api.Node{gone("a")}, 67, 0},
		{"in turn", []api.Node{put("a", "1"), gone("a"), put("a", "22"), gone("b"), put("b", ""), gone("b")}, nil, 68, 68},
		{"Gone alone", []api.Node{gone("a"), gone("b")}, []api.Node{put("b", "2")}, 0, 67},
		{"Gone with a value", []api.Node{{Key: "a", Value: "123", Gone: true}}, nil, 0, 0},
		{"taken out once, where it stood thrice", []api.Node{put("a", "1"), put("a", "2"), put("a", "3")}, []api.Node{gone("a")}, 67, 0},
	} {
		changes(t, c.what, c.l, c.g, c.ahead, c.behind)
	}
}

func TestChangeAtTheTop(t *testing.T) {
	const top = 1 << 62
	half := long(1<<61 - 66) // under a key of one byte
	changes(t, "behind", []api.Node{put("a", half)}, []api.Node{put("b", half), put("c", half)}, 1<<61, top)
	changes(t, "ahead", []api.Node{put("a", half), put("b", half), put("c", half)}, []api.Node{gone("b"), gone("a")}, top, 1<<61)
	changes(t, "both", []api.Node{put("a", half), put("b", half), put("c", "")}, []api.Node{put("d", "")}, top, top)
	changes(t, "none", []api.Node{put("a", half), put("b", half[1:])}, []api.Node{put("c", ""), gone("a")}, top-1, 1<<61-1+66)
	is(t, "Room behind the top", Room([]api.Node{put("a", half)}, []api.Node{put("b", half), put("c", half)}, top-1), api.ENOSPC)
	is(t, "Room that is enough", Room([]api.Node{put("a", half)}, []api.Node{put("b", half[1:])}, top-1), api.OK)
}

func TestRoom(t *testing.T) {
	for _, c := range []struct {
		what  string
		l, g  []api.Node
		limit int
		want  api.Errno
	}{
		{"rising, below the limit", two(), []api.Node{put("c", "")}, 201, api.OK},
		{"rising, at the limit", two(), []api.Node{put("c", "")}, 200, api.OK},
		{"rising, one above it", two(), []api.Node{put("c", "")}, 199, api.ENOSPC},
		{"rising by one, at it", two(), []api.Node{put("b", "22")}, 135, api.OK},
		{"rising by one, one above it", two(), []api.Node{put("b", "22")}, 134, api.ENOSPC},
		{"rising, above it ahead", two(), []api.Node{put("b", "22")}, 100, api.ENOSPC},
		{"staying, at the limit", two(), []api.Node{put("b", "3")}, 134, api.OK},
		{"staying, one above it", two(), []api.Node{put("b", "3")}, 133, api.OK},
		{"staying, far above it", two(), []api.Node{put("b", "3")}, 1, api.OK},
		{"staying by turns, above it", two(), []api.Node{gone("b"), put("c", "3")}, 100, api.OK},
		{"falling, one above it", two(), []api.Node{put("b", "")}, 132, api.OK},
		{"falling, from above to it", two(), []api.Node{put("b", "")}, 133, api.OK},
		{"falling, far above it", two(), []api.Node{gone("a"), put("c", "")}, 0, api.OK},
		{"the chapter's, at it", two(), []api.Node{gone("a"), put("c", "33")}, 135, api.OK},
		{"the chapter's, above it", two(), []api.Node{gone("a"), put("c", "33")}, 134, api.ENOSPC},
		{"only the end counts", two(), []api.Node{put("c", strings.Repeat("v", 256)), gone("c")}, 134, api.OK},
		{"nothing", nil, nil, 0, api.OK},
		{"an empty g, above it", two(), nil, 0, api.OK},
		{"an empty l, at it", nil, []api.Node{put("a", "1")}, 67, api.OK},
		{"an empty l, above it", nil, []api.Node{put("a", "1")}, 66, api.ENOSPC},
		{"no limit, rising", nil, []api.Node{put("a", "1")}, 0, api.ENOSPC},
		{"a limit below 0, nothing", nil, nil, -1, api.OK},
		{"a limit below 0, rising", two(), []api.Node{put("b", "22")}, -1, api.ENOSPC},
		{"a limit below 0, staying", two(), []api.Node{put("b", "3")}, -1, api.OK},
		{"a limit below 0, falling", two(), []api.Node{put("b", "")}, -200, api.OK},
		{"the least limit, rising", nil, []api.Node{{}}, math.MinInt, api.ENOSPC},
		{"the least limit, staying", two(), two(), math.MinInt, api.OK},
		{"the greatest limit", two(), []api.Node{put("c", "33")}, math.MaxInt, api.OK},
		{"l with one key twice, at it", []api.Node{put("a", "1"), put("a", "1")}, []api.Node{put("b", "2")}, 134, api.OK},
		{"l with one key twice, rising", []api.Node{put("a", "1"), put("a", "1")}, []api.Node{put("a", "22")}, 67, api.ENOSPC},
		{"l with a Gone one, rising", []api.Node{put("a", "1"), gone("a")}, []api.Node{put("a", "")}, 65, api.ENOSPC},
		{"l with a Gone one, at it", []api.Node{put("a", "1"), gone("a")}, []api.Node{put("a", "")}, 66, api.OK},
		{"l not in order", []api.Node{put("b", "2"), put("a", "1")}, []api.Node{put("a", "2")}, 1, api.OK},
	} {
		is(t, c.what, Room(c.l, c.g, c.limit), c.want)
	}
}

// P1602

func TestTakingOut(t *testing.T) {
	chance := rand.New(rand.NewSource(3))
	for range 3000 {
		l, g := someNodes(chance, chance.Intn(12)), someNodes(chance, chance.Intn(12))
		for i := range g {
			g[i].Gone = true
		}
		for _, limit := range []int{math.MinInt, -1, 0, 1, chance.Intn(1000), math.MaxInt} {
			is(t, fmt.Sprintf("Room of %+v in %+v with %d", g, l, limit), Room(l, g, limit), api.OK)
		}
	}
}

// P1604

func TestOrphans(t *testing.T) {
	orphan := must(t)(node.Orphan(api.MaxInodes))
	for size := 1; size <= api.MaxName; size++ {
		for _, letter := range []string{"\x01", "n", "\xff"} {
			e := must(t)(node.Entry(1, api.Entry{Name: strings.Repeat(letter, size), Ino: 2, Kind: api.File}))
			l, g := []api.Node{e}, []api.Node{gone(e.Key), orphan}
			ahead, behind := Change(l, g)
			if behind >= ahead {
				t.Errorf("a name of %d bytes: %d ahead, %d behind", size, ahead, behind)
			}
			is(t, "ahead", ahead, 73+2*size)
			is(t, "behind", behind, 74)
			is(t, "Room", Room(l, g, 0), api.OK)
		}
	}
}

// model: a list of keys with their values, as the chapter's words change it: each node by itself.
type model []api.Node

func (m *model) do(n api.Node) {
	at := slices.IndexFunc(*m, func(x api.Node) bool { return x.Key == n.Key })
	if at >= 0 {
		*m = slices.Delete(*m, at, at+1)
	}
	if !n.Gone {
		*m = append(*m, n)
	}
}

func (m model) cost() int {
	total := 0
	for _, n := range m {
		total += 64 + 2*len(n.Key) + len(n.Value)
	}
	return total
}

func TestChangeByChance(t *testing.T) {
	chance := rand.New(rand.NewSource(4))
	told := map[api.Errno]int{}
	for range 20000 {
		l, g := someNodes(chance, chance.Intn(16)), someNodes(chance, chance.Intn(16))
		if chance.Intn(2) == 0 {
			l = inOrder(l)
		}
		m := model{}
		for _, n := range l {
			m.do(n)
		}
		ahead := m.cost()
		for _, n := range g {
			m.do(n)
		}
		behind := m.cost()
		what := fmt.Sprintf("%+v to %+v", g, l)
		changes(t, what, l, g, ahead, behind)
		for _, limit := range []int{0, ahead - 1, ahead, ahead + 1, behind - 1, behind, behind + 1, chance.Intn(1000) - 100} {
			want := api.OK
			if behind > limit && behind > ahead {
				want = api.ENOSPC
			}
			is(t, fmt.Sprintf("%s within %d", what, limit), Room(l, g, limit), want)
			told[want]++
		}
	}
	if told[api.OK] < 1000 || told[api.ENOSPC] < 1000 {
		t.Errorf("told: %v", told)
	}
}

// inOrder: each key once, none Gone: what Nodes reckons, Change does.
func inOrder(l []api.Node) []api.Node {
	m := model{}
	for _, n := range l {
		m.do(n)
	}
	slices.SortFunc(m, func(a, b api.Node) int { return strings.Compare(a.Key, b.Key) })
	return m
}

// TestChangeOfATree: a list that is as it should be costs ahead what Nodes says.
func TestChangeOfATree(t *testing.T) {
	chance := rand.New(rand.NewSource(5))
	for range 2000 {
		l, g := inOrder(someNodes(chance, chance.Intn(20))), someNodes(chance, chance.Intn(8))
		ahead, behind := Change(l, g)
		is(t, "ahead", ahead, Nodes(l))
		is(t, "behind", behind, Nodes(inOrder(append(slices.Clone(l), g...))))
	}
}

// TestLongLists: more keys than a chip holds, and more nodes of one key.
func TestLongLists(t *testing.T) {
	var l, g []api.Node
	for i := range 100000 {
		l = append(l, put(fmt.Sprintf("%06d", i), "1"))
		g = append(g, put("same", fmt.Sprint(i)))
	}
	changes(t, "many keys", l, g, 77*100000, 77*100000+64+8+5)
	changes(t, "one key", g, l, 77, 77+77*100000)
}
