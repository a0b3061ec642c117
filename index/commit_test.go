package index

import (
	"fmt"
	"math"
	"math/rand"
	"slices"
	"strings"
	"testing"

	"pumice/api"
	"pumice/ebm"
	"pumice/image"
)

// content: all pages of the logical blocks, so that a change of one shows.
func content(m *ebm.Manager) []string {
	var l []string
	for leb := range m.Lebs() {
		text := fmt.Sprint(m.Used(leb), " ")
		for page := range m.Used(leb) {
			data, errno := m.Read(leb, page)
			text += string(data) + fmt.Sprint(int(errno))
		}
		l = append(l, text)
	}
	return l
}

// refused: a Commit that says this, and changes nothing.
func refused(t *testing.T, what string, x *Index, lebs []int, want api.Errno) {
	t.Helper()
	before, dirty, root := content(x.m), x.Dirty(), x.Root()
	at, n, errno := x.Commit(lebs)
	is(t, what, errno, want)
	is(t, what, at, image.Place{})
	is(t, what+": needed", n, 0)
	is(t, what+": the chip is as it was", slices.Equal(content(x.m), before), true)
	is(t, what+": Dirty", x.Dirty(), dirty)
	is(t, what+": Root", x.Root(), root)
}

func TestCommitWrong(t *testing.T) {
	m := formatted(t, small)
	keys := numbered(150)
	x := filled(t, m, keys)
	wrong := [][]int{{-1}, {12}, {math.MinInt}, {math.MaxInt}, {3, 3}, {3, 4, 3}, {1, 2, 3, 4, 12}, {5, -1, 6}}
	for _, lebs := range wrong {
		refused(t, fmt.Sprint("Commit(", lebs, ") of what is dirty"), x, lebs, api.EINVAL)
	}
	root := committed(t, x, 7)
	taken, _ := x.Lebs()
	if len(taken) < 2 {
		t.Fatalf("%v: too few lebs", taken)
	}
	for _, y := range []*Index{x, opened(t, m, root)} {
		for _, lebs := range wrong {
			refused(t, fmt.Sprint("Commit(", lebs, ") of what is clean"), y, lebs, api.EINVAL)
		}
		for _, leb := range taken {
			refused(t, "Commit to one of Lebs", y, []int{leb}, api.EINVAL)
			refused(t, "Commit to one of Lebs", y, []int{1, 2, leb}, api.EINVAL)
		}
		is(t, "Put", y.Put(keys[30], image.Place{}), api.OK)
		left, _ := y.Lebs()
		for _, leb := range left {
			refused(t, "Commit to one of Lebs", y, []int{1, leb}, api.EINVAL)
		}
	}
}

// TestCommitAllLebs: each logical block may be one to write to, in any order.
func TestCommitAllLebs(t *testing.T) {
	m := formatted(t, small)
	x := New(m)
	var want []image.Slot
	for leb := range m.Lebs() {
		key := fmt.Sprint("k", leb)
		is(t, "Put", x.Put(key, value(key)), api.OK)
		want = with(want, slots(key)[0])
		is(t, "Touch", x.Touch(), api.OK)
		root, n, errno := x.Commit([]int{leb})
		is(t, "Commit", errno, api.OK)
		is(t, "Commit: needed", n, 1)
		is(t, "Commit", root.Leb, leb)
		lebsAre(t, "Commit", x, leb)
		holds(t, "Commit", opened(t, m, root), want)
	}
}

// need: how many logical blocks a Commit would need.
func need(x *Index) int {
	return needed(x.top.sizes(), x.m.Page(), x.m.Pages())
}

// TestCommitRoom: just enough, one too few, more than are needed; they are taken in their order.
func TestCommitRoom(t *testing.T) {
	for _, g := range []api.Geometry{small, tight, large, {Blocks: 64, Pages: 64, Page: 64, Reserve: 2}} {
		for _, n := range []int{1, 9, 60, 120} {
			m := formatted(t, g)
			x := filled(t, m, numbered(n))
			enough := need(x)
			order := rand.New(rand.NewSource(int64(n))).Perm(m.Lebs())
			if enough > 1 || n < 10 {
				refused(t, "one too few", x, order[:enough-1], api.ENOSPC)
			}
			holds(t, "behind ENOSPC", x, slots(numbered(n)...))
			root, used, errno := x.Commit(order[:enough])
			is(t, "just enough", errno, api.OK)
			is(t, "just enough", used, enough)
			is(t, "just enough: the root", root.Leb, order[enough-1])
			want := slices.Sorted(slices.Values(order[:enough]))
			lebsAre(t, "just enough", x, want...)
			alike(t, "just enough", standing(t, m, root).lebs, want)
			is(t, "Touch", x.Touch(), api.OK)
			// A page that is written tells whether a logical block is unmapped that is not needed.
			rest := order[enough:]
			for _, leb := range rest {
				is(t, "Write", m.Write(leb, []byte("other")), api.OK)
			}
			root, used, errno = x.Commit(rest)
			is(t, "more than needed", errno, api.OK)
			if used > enough {
				t.Errorf("%d needed behind Touch, %d ahead", used, enough)
			}
			is(t, "more than needed: the root", root.Leb, rest[used-1])
			for i, leb := range rest {
				data, _ := m.Read(leb, 0)
				is(t, fmt.Sprint("unmapped: ", i, " of ", used), strings.HasPrefix(string(data), "other"), i >= used)
			}
			holds(t, "more than needed", opened(t, m, root), slots(numbered(n)...))
		}
	}
}

// TestCommitNone: with no logical blocks.
func TestCommitNone(t *testing.T) {
	m := formatted(t, small)
	x := filled(t, m, []string{"a"})
	for _, lebs := range [][]int{nil, {}} {
		refused(t, "Commit of what is dirty", x, lebs, api.ENOSPC)
	}
	root := committed(t, x, 3)
	for _, lebs := range [][]int{nil, {}, {4}} {
		at, n, errno := x.Commit(lebs)
		is(t, "Commit of what is clean", errno, api.OK)
		is(t, "Commit of what is clean", at, root)
		is(t, "Commit of what is clean: needed", n, 0)
	}
	is(t, "Touch", x.Touch(), api.OK)
	refused(t, "Commit of what was touched", x, nil, api.ENOSPC)
	is(t, "Delete", first(x.Delete("a")), true)
	at, n, errno := x.Commit(nil)
	is(t, "Commit of what became empty", errno, api.OK)
	is(t, "Commit of what became empty", at, image.Place{})
	is(t, "Commit of what became empty: needed", n, 0)
}

// TestCommitOld: a logical block in which only nodes stand that were changed since is none of Lebs; with too little room what stands there stays.
func TestCommitOld(t *testing.T) {
	m := formatted(t, small)
	x := filled(t, m, []string{"a"})
	root := committed(t, x, 3)
	for _, key := range numbered(120) {
		is(t, "Put", x.Put(key, value(key)), api.OK)
	}
	refused(t, "too little room", x, []int{3}, api.ENOSPC)
	holds(t, "at the old root", opened(t, m, root), slots("a"))
	_, n, errno := x.Commit([]int{3, 4, 5, 6})
	is(t, "Commit", errno, api.OK)
	holds(t, "Commit", opened(t, m, x.Root()), with(slots(numbered(120)...), slots("a")[0]))
	is(t, "needed", n > 1, true)
}

// TestStay: nodes that stand on the chip as they are stay where they are; only those on the way to a change are written.
func TestStay(t *testing.T) {
	for _, n := range []int{70, 500} {
		m := formatted(t, large)
		keys := numbered(n)
		x := opened(t, m, committed(t, filled(t, m, keys), 100))
		for i := range 20 {
			old := standing(t, m, x.Root())
			key := keys[(i*37)%n]
			is(t, "Put", x.Put(key, image.Place{Leb: i}), api.OK)
			root, used, errno := x.Commit([]int{i})
			is(t, "Commit", errno, api.OK)
			is(t, "Commit: needed", used, 1)
			fresh := 0
			for _, at := range standing(t, m, root).places {
				if !slices.Contains(old.places, at) {
					fresh++
				}
			}
			is(t, "nodes that were written", fresh, x.top.Level+1)
			lebsAre(t, "stay", x, standing(t, m, root).lebs...)
		}
	}
}

// TestLittle: what changes nothing is not written.
func TestLittle(t *testing.T) {
	m := formatted(t, small)
	keys := numbered(60)
	x := filled(t, m, keys)
	root := committed(t, x, 6)
	ops := m.Chip().Ops()
	for _, y := range []*Index{x, opened(t, m, root)} {
		for _, key := range keys {
			is(t, "Put", y.Put(key, value(key)), api.OK)
		}
		is(t, "Delete", first(y.Delete("x")), false)
		holds(t, "looks", y, slots(keys...))
		is(t, "Put of what can't be", y.Put("", image.Place{}), api.EINVAL)
		is(t, "Dirty", y.Dirty(), false)
		at, n, errno := y.Commit([]int{1, 2, 3})
		is(t, "Commit", errno, api.OK)
		is(t, "Commit", at, root)
		is(t, "Commit: needed", n, 0)
	}
	is(t, "Ops", m.Chip().Ops(), ops)
}

func TestTouch(t *testing.T) {
	m := formatted(t, small)
	keys := numbered(50)
	for i, n := range []int{1, 8, 9, 50} {
		root := committed(t, filled(t, m, keys[:n]), 8)
		for _, x := range []*Index{opened(t, m, root), opened(t, m, root)} {
			ops := m.Chip().Ops()
			is(t, "Touch", x.Touch(), api.OK)
			is(t, "Ops", m.Chip().Ops(), ops)
			is(t, "Dirty", x.Dirty(), true)
			is(t, "Root", x.Root(), root)
			lebsAre(t, "Touch", x)
			holds(t, "Touch", x, slots(keys[:n]...))
			refused(t, "Commit to nothing", x, nil, api.ENOSPC)
			is(t, "Touch again", x.Touch(), api.OK)
			old := standing(t, m, root)
			at, used, errno := x.Commit([]int{i, 4, 5, 6})
			is(t, "Commit", errno, api.OK)
			is(t, "Commit: needed", used > 0, true)
			for _, leb := range standing(t, m, at).lebs {
				if slices.Contains(old.lebs, leb) {
					t.Errorf("a node stayed in %d", leb)
				}
			}
			holds(t, "Commit", opened(t, m, at), slots(keys[:n]...))
			holds(t, "at the old root", opened(t, m, root), slots(keys[:n]...))
		}
	}
	is(t, "Wrong", m.Chip().Wrong(), 0)
}

// TestStates: Lebs, Dirty and Root behind each call.
func TestStates(t *testing.T) {
	m := formatted(t, small)
	x := New(m)
	check := func(what string, dirty bool, root image.Place, lebs ...int) {
		t.Helper()
		is(t, what+": Dirty", x.Dirty(), dirty)
		is(t, what+": Root", x.Root(), root)
		lebsAre(t, what, x, lebs...)
	}
	none := image.Place{}
	check("New", false, none)
	is(t, "Put", x.Put("a", none), api.OK)
	check("Put", true, none)
	is(t, "Delete", first(x.Delete("a")), true)
	check("Delete of the only one", false, none)
	is(t, "Put", x.Put("a", none), api.OK)
	is(t, "Put", x.Put("b", none), api.OK)
	root, _, _ := x.Commit([]int{4})
	check("Commit", false, root, 4)
	x = opened(t, m, root)
	check("Open", false, root, 4)
	is(t, "Delete", first(x.Delete("b")), true)
	check("Delete", true, root)
	second, _, _ := x.Commit([]int{5, 6})
	check("Commit", false, second, 5)
	is(t, "Touch", x.Touch(), api.OK)
	check("Touch", true, second)
	x.Commit(nil)
	check("Commit that said ENOSPC", true, second)
	third, _, _ := x.Commit([]int{4})
	check("Commit", false, third, 4)
	is(t, "Put", x.Put("a", image.Place{Leb: 1}), api.OK)
	check("Put", true, third)
	fourth, _, _ := x.Commit([]int{2})
	check("Commit", false, fourth, 2)
	is(t, "Delete", first(x.Delete("a")), true)
	check("Delete of the last one", false, fourth)
	x.Commit([]int{3})
	check("Commit of an empty index", false, none)
}

// TestLebsChanged: of two leaves in two logical blocks one is changed: with its root it is not counted any more.
func TestLebsChanged(t *testing.T) {
	m := formatted(t, small)
	a := lay(t, m, 7, packed(t, 0, slots("a", "b", "c", "d", "e")...))[0]
	b := lay(t, m, 2, packed(t, 0, slots("f", "g", "h", "i", "j")...))[0]
	root := lay(t, m, 9, packed(t, 1, image.Slot{Key: "a", At: a}, image.Slot{Key: "f", At: b}))[0]
	x := opened(t, m, root)
	lebsAre(t, "opened", x, 2, 7, 9)
	is(t, "Put", x.Put("c", image.Place{}), api.OK)
	lebsAre(t, "Put", x, 2)
	refused(t, "Commit to one of Lebs", x, []int{2}, api.EINVAL)
	at, n, errno := x.Commit([]int{5})
	is(t, "Commit", errno, api.OK)
	is(t, "Commit: needed", n, 1)
	is(t, "Commit", at.Leb, 5)
	lebsAre(t, "Commit", x, 2, 5)
	is(t, "Delete", first(x.Delete("j")), true)
	lebsAre(t, "Delete", x, 5)
	refused(t, "Commit to one of Lebs", x, []int{2, 5}, api.EINVAL)
	at, _, errno = x.Commit([]int{2})
	is(t, "Commit to what was one of Lebs", errno, api.OK)
	is(t, "Commit", at.Leb, 2)
	lebsAre(t, "Commit", x, 2, 5)
	want := slots("a", "b", "c", "d", "e", "f", "g", "h", "i")
	want[2].At = image.Place{}
	holds(t, "Commit", opened(t, m, at), want)
}

// allowed: how many logical blocks P1204 gives.
func allowed(m *ebm.Manager, keys []string) int {
	size := m.Pages() * m.Page()
	return (3*image.Bound(keys) + size) / (size - 610)
}

// longer: keys of four bytes, some of which have all bytes that a key may have.
func longer(n int, long func(i int) bool) []string {
	l := numbered(n)
	for i := range l {
		if long(i) {
			l[i] += strings.Repeat("x", api.MaxKey-len(l[i]))
		}
	}
	return l
}

// TestRoom: what P1204 names is enough: of nodes as full as may be, and of such as were thinned out behind Touch, also where the long keys stand just ahead of the others.
func TestRoom(t *testing.T) {
	kinds := map[string]func(n int) []string{
		"short":  numbered,
		"long":   func(n int) []string { return longer(n, func(int) bool { return true }) },
		"fourth": func(n int) []string { return longer(n, func(i int) bool { return i%4 == 0 }) },
		"fifth":  func(n int) []string { return longer(n, func(i int) bool { return i%5 == 0 }) },
		"some":   func(n int) []string { return longer(n, func(i int) bool { return i%16 == 0 }) },
	}
	geometries := []api.Geometry{
		{Blocks: 256, Pages: 8, Page: 256}, {Blocks: 256, Pages: 16, Page: 128}, {Blocks: 256, Pages: 32, Page: 64},
		{Blocks: 256, Pages: 64, Page: 64}, {Blocks: 256, Pages: 8, Page: 512}, {Blocks: 256, Pages: 64, Page: 512},
	}
	for _, g := range geometries {
		for kind, keys := range kinds {
			for _, n := range []int{1, 4, 8, 9, 33, 64, 65, 200, 600} {
				what := fmt.Sprintf("%s, %d keys of %+v", kind, n, g)
				m := formatted(t, g)
				x := New(m)
				all := keys(n)
				for _, key := range all {
					is(t, "Put", x.Put(key, value(key)), api.OK)
				}
				roomy(t, what+", put in order", x, all)
				is(t, "Touch", x.Touch(), api.OK)
				roomy(t, what+", touched", x, all)
				left := thinned(t, x, all)
				roomy(t, what+", thinned out", x, left)
			}
		}
	}
}

// thinned: keys are taken out, so that as few as may be are left in each node; those that are left.
func thinned(t *testing.T, x *Index, keys []string) []string {
	t.Helper()
	is(t, "Touch", x.Touch(), api.OK)
	var left []string
	for i, key := range keys {
		if i%5 == 4 || i%7 == 2 {
			is(t, "Delete", first(x.Delete(key)), true)
			continue
		}
		left = append(left, key)
	}
	return left
}

// roomy: a Commit behind Touch has room in what P1204 gives.
func roomy(t *testing.T, what string, x *Index, keys []string) {
	t.Helper()
	if len(keys) == 0 {
		return
	}
	if !x.top.dirty {
		is(t, "Touch", x.Touch(), api.OK)
	}
	old := standing(t, x.m, x.Root())
	var lebs []int
	for leb := range x.m.Lebs() {
		if !slices.Contains(old.lebs, leb) {
			lebs = append(lebs, leb)
		}
	}
	most := allowed(x.m, keys)
	if most > len(lebs) {
		return // the chip is too small for what the promise allows
	}
	root, n, errno := x.Commit(lebs[:most])
	is(t, what+": Commit", errno, api.OK)
	if n > most {
		t.Errorf("%s: %d needed, not %d", what, n, most)
	}
	alike(t, what, keysOf(standing(t, x.m, root).slots), keys)
}

// TestRoomOfOthers: what was opened may be parted as thinly as can be: behind Touch it has room, too.
func TestRoomOfOthers(t *testing.T) {
	m := formatted(t, large)
	keys := numbered(64)
	leb := 20
	var below []image.Slot
	for _, key := range keys {
		below = append(below, image.Slot{Key: key, At: value(key)})
	}
	// Each node has one slot, on five levels; above them each has two.
	for level := 0; level == 0 || len(below) > 1; level++ {
		size := min(1+level/5, 2)
		var payloads [][]byte
		var next []image.Slot
		for i := 0; i < len(below); i += size {
			payloads = append(payloads, packed(t, level, below[i:i+size]...))
			next = append(next, image.Slot{Key: below[i].Key})
		}
		for i, at := range lay(t, m, leb, payloads...) {
			next[i].At = at
		}
		below = next
		leb++
	}
	x := opened(t, m, below[0].At)
	holds(t, "thin", x, slots(keys...))
	is(t, "level", x.top.Level > 9, true)
	is(t, "Touch", x.Touch(), api.OK)
	roomy(t, "thin", x, keys)
	is(t, "bytes", standing(t, m, x.Root()).bytes, image.Bound(keys))
}
