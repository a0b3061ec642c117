package index

import (
	"fmt"
	"math"
	"math/rand"
	"slices"
	"strings"
	"testing"

	"pumice/api"
	"pumice/ebm"
	"pumice/image"
	"pumice/nand"
	"pumice/scan"
	"pumice/wbuf"
)

// small: 12 logical blocks of 14 pages of 128 bytes.
var small = api.Geometry{Blocks: 16, Pages: 16, Page: 128, Reserve: 2}

// tight: logical blocks of the fewest bytes that there may be, 1536.
var tight = api.Geometry{Blocks: 64, Pages: 8, Page: 256, Reserve: 2}

// large: 250 logical blocks of 62 pages of 512 bytes.
var large = api.Geometry{Blocks: 256, Pages: 64, Page: 512, Reserve: 4}

func is[T comparable](t *testing.T, what string, got, want T) {
	t.Helper()
	if got != want {
		t.Errorf("%s: %+v, not %+v", what, got, want)
	}
}

// alike: the same elements; none may be nil or empty.
func alike[T comparable](t *testing.T, what string, got, want []T) {
	t.Helper()
	if !slices.Equal(got, want) {
		t.Errorf("%s: %+v, not %+v", what, got, want)
	}
}

func formatted(t *testing.T, g api.Geometry) *ebm.Manager {
	t.Helper()
	c, errno := nand.New(g, nil)
	is(t, "nand.New", errno, api.OK)
	m, errno := ebm.Format(c)
	if errno != api.OK {
		t.Fatalf("Format: %d", errno)
	}
	return m
}

func attached(t *testing.T, c *nand.Chip) *ebm.Manager {
	t.Helper()
	m, errno := ebm.Attach(c)
	if errno != api.OK {
		t.Fatalf("Attach: %d", errno)
	}
	return m
}

func opened(t *testing.T, m *ebm.Manager, root image.Place) *Index {
	t.Helper()
	x, errno := Open(m, root)
	if errno != api.OK || x == nil {
		t.Fatalf("Open(%+v): %d", root, errno)
	}
	return x
}

func arm(t *testing.T, c *nand.Chip, plan ...api.Fault) {
	t.Helper()
	is(t, "Arm", c.Arm(plan), api.OK)
}

// darken: the power goes off; nothing else changes.
func darken(t *testing.T, c *nand.Chip) {
	t.Helper()
	arm(t, c, api.Fault{At: 1, Kind: api.Cut})
	for n := range c.Geometry().Blocks {
		if !c.Bad(n) {
			is(t, "Erase", c.Erase(n), api.ENXIO)
			return
		}
	}
	t.Fatal("no block is left")
}

// spend: so many blocks go bad that the manager only reads. Those that are mapped stay.
func spend(t *testing.T, m *ebm.Manager) {
	t.Helper()
	l, errno := scan.Scan(m.Chip())
	is(t, "Scan", errno, api.OK)
	for n, b := range l {
		if b.State == scan.Free && !m.Spent() {
			is(t, "Mark", m.Chip().Mark(n), api.OK)
		}
	}
	is(t, "Spent", m.Spent(), true)
}

// spoil: no page of a logical block can be read any more.
func spoil(t *testing.T, m *ebm.Manager, leb int) {
	t.Helper()
	l, errno := scan.Scan(m.Chip())
	is(t, "Scan", errno, api.OK)
	arm(t, m.Chip(), api.Fault{At: 1, Kind: api.Fail})
	is(t, "Erase", m.Chip().Erase(scan.Find(l, leb)), api.EIO)
}

// lay: payloads as frames of a logical block, synced; their places.
func lay(t *testing.T, m *ebm.Manager, leb int, payloads ...[]byte) []image.Place {
	t.Helper()
	l, errno := wbuf.Open(m, leb)
	is(t, "wbuf.Open", errno, api.OK)
	var places []image.Place
	for _, p := range payloads {
		pos, errno := l.Append(p)
		is(t, "Append", errno, api.OK)
		places = append(places, image.Place{Leb: leb, Pos: pos, Size: 6 + len(p)})
	}
	is(t, "Sync", l.Sync(), api.OK)
	return places
}

// packed: the payload of a node.
func packed(t *testing.T, level int, slots ...image.Slot) []byte {
	t.Helper()
	b, errno := image.Pack(image.Image{Level: level, Slots: slots})
	if errno != api.OK {
		t.Fatalf("Pack of level %d with %+v: %d", level, slots, errno)
	}
	return b
}

// value: a place that is a key's own.
func value(key string) image.Place {
	sum := 0
	for _, b := range []byte(key) {
		sum = sum*31 + int(b)
	}
	return image.Place{Leb: sum & 0xff, Pos: sum & 0xffff, Size: len(key)}
}

// slots: keys, each with its value.
func slots(keys ...string) []image.Slot {
	var l []image.Slot
	for _, k := range keys {
		l = append(l, image.Slot{Key: k, At: value(k)})
	}
	return l
}

// numbered: n keys of four bytes that rise.
func numbered(n int) []string {
	var l []string
	for i := range n {
		l = append(l, fmt.Sprintf("%04d", i))
	}
	return l
}

// filled: an index to which keys were put with their values, in an order that looks like chance.
func filled(t *testing.T, m *ebm.Manager, keys []string) *Index {
	t.Helper()
	x := New(m)
	for _, i := range rand.New(rand.NewSource(int64(len(keys)))).Perm(len(keys)) {
		is(t, "Put", x.Put(keys[i], value(keys[i])), api.OK)
	}
	return x
}

// committed: its root; all logical blocks from from on may be needed in which nothing of the old root stands.
func committed(t *testing.T, x *Index, from int) image.Place {
	t.Helper()
	old := standing(t, x.m, x.Root())
	var lebs []int
	for leb := from; leb < x.m.Lebs(); leb++ {
		if !slices.Contains(old.lebs, leb) {
			lebs = append(lebs, leb)
		}
	}
	root, n, errno := x.Commit(lebs)
	if errno != api.OK {
		t.Fatalf("Commit: %d (%d needed)", errno, n)
	}
	return root
}

// holds: an index tells just these keys, in Range and in Get.
func holds(t *testing.T, what string, x *Index, want []image.Slot) {
	t.Helper()
	got, errno := x.Range("", "", math.MaxInt)
	is(t, what+": Range", errno, api.OK)
	alike(t, what+": Range", got, want)
	for _, s := range want {
		at, ok, errno := x.Get(s.Key)
		if at != s.At || !ok || errno != api.OK {
			t.Errorf("%s: Get(%q): %+v, %v, %d, not %+v", what, s.Key, at, ok, errno, s.At)
		}
	}
}

// lebsAre: Lebs tells just these.
func lebsAre(t *testing.T, what string, x *Index, want ...int) {
	t.Helper()
	got, errno := x.Lebs()
	is(t, what+": Lebs", errno, api.OK)
	alike(t, what+": Lebs", got, want)
}

func TestExamples(t *testing.T) {
	m := formatted(t, small)
	x := New(m)
	p := image.Place{Leb: 5, Pos: 0, Size: 7}
	is(t, "Put", x.Put("a", p), api.OK)
	_, _, errno := x.Commit(nil)
	is(t, "Commit(nothing)", errno, api.ENOSPC)
	root, n, errno := x.Commit([]int{3})
	is(t, "Commit(3)", errno, api.OK)
	is(t, "Commit(3)", root, image.Place{Leb: 3, Pos: 0, Size: 18})
	is(t, "Commit(3): needed", n, 1)
	y := opened(t, m, root)
	at, ok, errno := y.Get("a")
	is(t, "Get", errno, api.OK)
	is(t, "Get", ok, true)
	is(t, "Get", at, p)
	lebsAre(t, "opened", y, 3)
	again, n, errno := y.Commit([]int{4})
	is(t, "Commit(4)", errno, api.OK)
	is(t, "Commit(4)", again, root)
	is(t, "Commit(4): needed", n, 0)
	_, errno = Open(m, image.Place{Leb: 9, Size: 5})
	is(t, "Open", errno, api.EUCLEAN)
}

// TestNil: each call of a nil index, and of one over no manager.
func TestNil(t *testing.T) {
	var none *Index
	for _, x := range []*Index{none, New(nil)} {
		at, ok, errno := x.Get("")
		is(t, "Get", errno, api.EFAULT)
		is(t, "Get", at, image.Place{})
		is(t, "Get", ok, false)
		is(t, "Put", x.Put("", image.Place{Leb: -1}), api.EFAULT)
		was, errno := x.Delete("")
		is(t, "Delete", errno, api.EFAULT)
		is(t, "Delete", was, false)
		l, errno := x.Range("", "", -1)
		is(t, "Range", errno, api.EFAULT)
		is(t, "Range", len(l), 0)
		root, n, errno := x.Commit([]int{-1})
		is(t, "Commit", errno, api.EFAULT)
		is(t, "Commit", root, image.Place{})
		is(t, "Commit", n, 0)
		is(t, "Touch", x.Touch(), api.EFAULT)
		lebs, errno := x.Lebs()
		is(t, "Lebs", errno, api.EFAULT)
		is(t, "Lebs", len(lebs), 0)
		is(t, "Dirty", x.Dirty(), false)
		is(t, "Root", x.Root(), image.Place{})
	}
	x, errno := Open(nil, image.Place{})
	is(t, "Open", errno, api.EFAULT)
	is(t, "Open", x, nil)
	x, errno = Open(nil, image.Place{Leb: -1})
	is(t, "Open", errno, api.EFAULT)
	is(t, "Open", x, nil)
}

// TestEmpty: a new index, and one that was opened at the zero place.
func TestEmpty(t *testing.T) {
	m := formatted(t, small)
	for _, x := range []*Index{New(m), opened(t, m, image.Place{})} {
		ops := m.Chip().Ops()
		is(t, "Root", x.Root(), image.Place{})
		is(t, "Dirty", x.Dirty(), false)
		lebsAre(t, "empty", x)
		holds(t, "empty", x, nil)
		_, ok, errno := x.Get("a")
		is(t, "Get", errno, api.OK)
		is(t, "Get", ok, false)
		was, errno := x.Delete("a")
		is(t, "Delete", errno, api.OK)
		is(t, "Delete", was, false)
		is(t, "Touch", x.Touch(), api.OK)
		is(t, "Dirty behind Touch", x.Dirty(), false)
		for _, lebs := range [][]int{nil, {}, {0}, {3, 4}} {
			root, n, errno := x.Commit(lebs)
			is(t, "Commit", errno, api.OK)
			is(t, "Commit", root, image.Place{})
			is(t, "Commit: needed", n, 0)
		}
		is(t, "Ops", m.Chip().Ops(), ops)
	}
}

// TestOpenWhere: at places where an image stands, and where none does.
func TestOpenWhere(t *testing.T) {
	m := formatted(t, small)
	leaf := packed(t, 0, slots("a", "b")...)
	at := lay(t, m, 4, []byte("no image"), leaf, []byte("T"), leaf[:len(leaf)-1], append(slices.Clone(leaf), 0))
	good := at[1]
	holds(t, "an image", opened(t, m, good), slots("a", "b"))
	is(t, "Root", opened(t, m, good).Root(), good)
	is(t, "Dirty", opened(t, m, good).Dirty(), false)
	lebsAre(t, "an image", opened(t, m, good), 4)
	second := lay(t, m, 11, leaf)[0]
	holds(t, "the last leb, its beginning", opened(t, m, second), slots("a", "b"))
	wrong := []image.Place{
		at[0], at[2], at[3], at[4],
		{Leb: 4, Pos: good.Pos}, {Leb: 4, Pos: good.Pos, Size: good.Size - 1}, {Leb: 4, Pos: good.Pos, Size: good.Size + 1},
		{Leb: 4, Pos: good.Pos, Size: -good.Size}, {Leb: 4, Pos: good.Pos, Size: math.MaxInt}, {Leb: 4, Pos: good.Pos, Size: good.Size - 6},
		{Leb: 4, Pos: good.Pos - 1, Size: good.Size}, {Leb: 4, Pos: good.Pos + 1, Size: good.Size}, {Leb: 4, Pos: good.Pos + 6, Size: good.Size},
		{Leb: 4, Pos: -1, Size: good.Size}, {Leb: 4, Pos: 14 * 128, Size: good.Size}, {Leb: 4, Pos: math.MinInt, Size: good.Size}, {Leb: 4, Pos: math.MaxInt, Size: good.Size},
		{Leb: 3, Pos: good.Pos, Size: good.Size}, {Leb: 12, Pos: 0, Size: good.Size}, {Leb: -1, Pos: 0, Size: good.Size},
		{Leb: math.MinInt, Pos: good.Pos, Size: good.Size}, {Leb: math.MaxInt, Pos: good.Pos, Size: good.Size},
		{Leb: 0, Pos: 0, Size: 1}, {Leb: 0, Pos: 1, Size: 0},
	}
	ops := m.Chip().Ops()
	for _, root := range wrong {
		x, errno := Open(m, root)
		is(t, fmt.Sprintf("Open(%+v)", root), errno, api.EUCLEAN)
		is(t, fmt.Sprintf("Open(%+v)", root), x, nil)
	}
	is(t, "Ops", m.Chip().Ops(), ops)
	spoil(t, m, 4)
	_, errno := Open(m, good)
	is(t, "Open of what can't be read", errno, api.EUCLEAN)
	holds(t, "another", opened(t, m, second), slots("a", "b"))
}

// TestPowerOff: each call, whatever it is given, behind the arguments' own errors.
func TestPowerOff(t *testing.T) {
	for _, again := range []bool{false, true} {
		m := formatted(t, small)
		root := committed(t, filled(t, m, numbered(40)), 5)
		x, empty := opened(t, m, root), New(m)
		loaded := opened(t, m, root)
		holds(t, "loaded", loaded, slots(numbered(40)...))
		darken(t, m.Chip())
		if again {
			// What the power went off under is good for nothing, also if it is on again.
			off(m)
			m.Chip().Power()
		}
		for _, at := range []image.Place{root, {}, {Leb: 99}, {Leb: 3, Pos: 5, Size: 9}} {
			y, errno := Open(m, at)
			is(t, "Open", errno, api.ENXIO)
			is(t, "Open", y, nil)
		}
		_, _, errno := x.Get("")
		is(t, "Get of no key", errno, api.EINVAL)
		at, ok, errno := x.Get("0007")
		is(t, "Get", errno, api.ENXIO)
		is(t, "Get", at, image.Place{})
		is(t, "Get", ok, false)
		is(t, "Put of no key", x.Put("", image.Place{}), api.EINVAL)
		is(t, "Put", x.Put("0007x", image.Place{}), api.ENXIO)
		_, errno = x.Delete("")
		is(t, "Delete of no key", errno, api.EINVAL)
		_, errno = x.Delete("0007")
		is(t, "Delete", errno, api.ENXIO)
		_, errno = x.Range("", "", -1)
		is(t, "Range of -1", errno, api.EINVAL)
		l, errno := x.Range("", "", 1)
		is(t, "Range", errno, api.ENXIO)
		is(t, "Range", len(l), 0)
		for _, y := range []*Index{x, empty, loaded} {
			is(t, "Touch", y.Touch(), api.ENXIO)
			_, errno = y.Lebs()
			is(t, "Lebs", errno, api.ENXIO)
			for _, lebs := range [][]int{nil, {1}, {1, 2}} {
				_, _, errno = y.Commit(lebs)
				is(t, "Commit", errno, api.ENXIO)
			}
			for _, lebs := range [][]int{{-1}, {12}, {1, 1}} {
				_, _, errno = y.Commit(lebs)
				is(t, "Commit of what can't be", errno, api.EINVAL)
			}
			is(t, "Dirty", y.Dirty(), false)
		}
		_, _, errno = loaded.Commit([]int{root.Leb})
		is(t, "Commit to one of Lebs", errno, api.EINVAL)
		is(t, "Root", x.Root(), root)
		holds(t, "no node must be looked at", loaded, slots(numbered(40)...))
		is(t, "Put in memory", empty.Put("a", value("a")), api.OK)
		holds(t, "in memory", empty, slots("a"))
		_, ok, errno = x.Get("\x00")
		is(t, "Get of a key below all", errno, api.OK)
		is(t, "Get of a key below all", ok, false)
		ok, errno = x.Delete("\x00")
		is(t, "Delete of a key below all", errno, api.OK)
		is(t, "Delete of a key below all", ok, false)
		_, errno = x.Range("b", "a", 5)
		is(t, "Range of nothing", errno, api.OK)
		_, errno = x.Range("", "", 0)
		is(t, "Range of none", errno, api.OK)
	}
}

func TestKeys(t *testing.T) {
	m := formatted(t, small)
	long := strings.Repeat("k", api.MaxKey)
	for _, key := range []string{"a", "\x00", "\xff", "ab", long[1:], long, strings.Repeat("\xff", api.MaxKey)} {
		x := New(m)
		is(t, "Put", x.Put(key, value(key)), api.OK)
		holds(t, key, x, slots(key))
		y := opened(t, m, committed(t, x, 3))
		holds(t, key, y, slots(key))
		was, errno := y.Delete(key)
		is(t, "Delete", errno, api.OK)
		is(t, "Delete", was, true)
		holds(t, key, y, nil)
	}
	for _, key := range []string{"", long + "k", strings.Repeat("\x00", 1000)} {
		x := filled(t, m, []string{"a", "b"})
		at, ok, errno := x.Get(key)
		is(t, "Get", errno, api.EINVAL)
		is(t, "Get", at, image.Place{})
		is(t, "Get", ok, false)
		is(t, "Put", x.Put(key, image.Place{}), api.EINVAL)
		was, errno := x.Delete(key)
		is(t, "Delete", errno, api.EINVAL)
		is(t, "Delete", was, false)
		holds(t, key, x, slots("a", "b"))
		// Range's bounds are no keys: any text may be one.
		l, errno := x.Range(key, "", 9)
		is(t, "Range", errno, api.OK)
		alike(t, "Range", l, between(slots("a", "b"), key, "", 9))
		l, errno = x.Range("", key, 9)
		is(t, "Range", errno, api.OK)
		alike(t, "Range", l, between(slots("a", "b"), "", key, 9))
	}
}

func TestPlaces(t *testing.T) {
	m := formatted(t, small)
	most := image.Place{Leb: 255, Pos: 1<<24 - 1, Size: 1<<16 - 1}
	for _, at := range []image.Place{{}, most, {Leb: most.Leb}, {Pos: most.Pos}, {Size: most.Size}, {Leb: 1, Pos: 2, Size: 3}} {
		x := New(m)
		is(t, "Put", x.Put("a", at), api.OK)
		holds(t, "in memory", x, []image.Slot{{Key: "a", At: at}})
		holds(t, "opened", opened(t, m, committed(t, x, 3)), []image.Slot{{Key: "a", At: at}})
	}
	x := filled(t, m, []string{"a", "b"})
	root := committed(t, x, 3)
	for _, at := range []image.Place{{Leb: -1}, {Pos: -1}, {Size: -1}, {Leb: 256}, {Pos: 1 << 24}, {Size: 1 << 16},
		{Leb: math.MinInt}, {Pos: math.MinInt}, {Size: math.MinInt}, {Leb: math.MaxInt}, {Pos: math.MaxInt}, {Size: math.MaxInt}} {
		is(t, fmt.Sprintf("Put(%+v)", at), x.Put("a", at), api.EINVAL)
		is(t, fmt.Sprintf("Put(%+v)", at), x.Put("c", at), api.EINVAL)
	}
	holds(t, "behind wrong places", x, slots("a", "b"))
	is(t, "Dirty", x.Dirty(), false)
	is(t, "Root", x.Root(), root)
}

// TestGet: keys that are there, between them, below all and above all, in memory and late.
func TestGet(t *testing.T) {
	m := formatted(t, large)
	for _, n := range []int{1, 2, 7, 8, 9, 64, 65, 300} {
		keys := numbered(n)
		x := filled(t, m, keys)
		y := opened(t, m, committed(t, x, 100))
		for _, i := range []*Index{x, y} {
			for _, key := range keys {
				at, ok, errno := i.Get(key)
				is(t, "Get", errno, api.OK)
				is(t, "Get", ok, true)
				is(t, "Get", at, value(key))
				_, ok, errno = i.Get(key + "\x00")
				is(t, "Get of a key between", errno, api.OK)
				is(t, "Get of a key between", ok, false)
			}
			for _, key := range []string{"/", "0", "\x00", "9", "\xff", strings.Repeat("\xff", api.MaxKey)} {
				at, ok, errno := i.Get(key)
				is(t, "Get of none", errno, api.OK)
				is(t, "Get of none", ok, false)
				is(t, "Get of none", at, image.Place{})
			}
		}
		is(t, "Dirty", y.Dirty(), false)
	}
}

// TestPut: a new key, another place, the same one.
func TestPut(t *testing.T) {
	m := formatted(t, large)
	for _, n := range []int{1, 8, 9, 200} {
		keys := numbered(n)
		root := committed(t, filled(t, m, keys), 100)
		x := opened(t, m, root)
		for _, key := range keys {
			is(t, "Put of the same", x.Put(key, value(key)), api.OK)
		}
		is(t, "Dirty", x.Dirty(), false)
		again, needed, errno := x.Commit([]int{1, 2})
		is(t, "Commit", errno, api.OK)
		is(t, "Commit", again, root)
		is(t, "Commit: needed", needed, 0)
		other := image.Place{Leb: 1, Pos: 2, Size: 999}
		is(t, "Put of another", x.Put(keys[n/2], other), api.OK)
		is(t, "Dirty", x.Dirty(), true)
		want := slots(keys...)
		want[n/2].At = other
		holds(t, "another", x, want)
		for _, key := range []string{"\x00", "0000x", "\xff"} {
			is(t, "Put of a new one", x.Put(key, value(key)), api.OK)
			want = with(want, slots(key)[0])
			holds(t, "a new one", x, want)
		}
		is(t, "Root", x.Root(), root)
		holds(t, "what was committed", opened(t, m, root), slots(keys...))
		holds(t, "committed anew", opened(t, m, committed(t, x, 0)), want)
		sound(t, "Put", x)
	}
}

// TestDelete: a key that is there, one that is not, the last one.
func TestDelete(t *testing.T) {
	m := formatted(t, large)
	for _, n := range []int{1, 2, 8, 9, 30, 200} {
		keys := numbered(n)
		root := committed(t, filled(t, m, keys), 100)
		x := opened(t, m, root)
		for _, key := range []string{"/", "0000x", "\xff"} {
			was, errno := x.Delete(key)
			is(t, "Delete of none", errno, api.OK)
			is(t, "Delete of none", was, false)
		}
		is(t, "Dirty", x.Dirty(), false)
		want := slots(keys...)
		for _, i := range rand.New(rand.NewSource(int64(n))).Perm(n) {
			is(t, "Dirty or whole", x.Dirty(), len(want) < n)
			was, errno := x.Delete(keys[i])
			is(t, "Delete", errno, api.OK)
			is(t, "Delete", was, true)
			want = without(want, keys[i])
			_, ok, errno := x.Get(keys[i])
			is(t, "Get of what is gone", errno, api.OK)
			is(t, "Get of what is gone", ok, false)
			was, _ = x.Delete(keys[i])
			is(t, "Delete again", was, false)
			sound(t, "Delete", x)
		}
		holds(t, "the last one gone", x, nil)
		is(t, "Dirty: there is no node", x.Dirty(), false)
		is(t, "Root", x.Root(), root)
		lebsAre(t, "the last one gone", x)
		again, needed, errno := x.Commit(nil)
		is(t, "Commit", errno, api.OK)
		is(t, "Commit", again, image.Place{})
		is(t, "Commit: needed", needed, 0)
		is(t, "Root", x.Root(), image.Place{})
		holds(t, "at the old root", opened(t, m, root), slots(keys...))
	}
}

// TestRange: bounds that are keys, lie between them, are empty, are turned round; all counts.
func TestRange(t *testing.T) {
	m := formatted(t, large)
	for _, n := range []int{0, 1, 5, 9, 100} {
		keys := numbered(n)
		x := filled(t, m, keys)
		root := committed(t, x, 100)
		bounds := []string{"", "\x00", "0000", "0000\x00", "0003", "0003z", "0009", "0050", "0099", "0100", "9", "\xff", strings.Repeat("\xff", 100)}
		for _, from := range bounds {
			for _, to := range bounds {
				for _, most := range []int{0, 1, 2, 8, 9, n, n + 1, math.MaxInt} {
					what := fmt.Sprintf("Range(%q, %q, %d) of %d", from, to, most, n)
					want := between(slots(keys...), from, to, most)
					for _, i := range []*Index{x, opened(t, m, root)} {
						got, errno := i.Range(from, to, most)
						is(t, what, errno, api.OK)
						alike(t, what, got, want)
					}
				}
				for _, most := range []int{-1, math.MinInt} {
					got, errno := x.Range(from, to, most)
					is(t, "Range", errno, api.EINVAL)
					is(t, "Range", len(got), 0)
				}
			}
		}
		is(t, "Dirty", x.Dirty(), false)
	}
}

// TestMemory: what is handed out is new memory, what is handed in is neither changed nor kept.
func TestMemory(t *testing.T) {
	m := formatted(t, small)
	x := filled(t, m, numbered(30))
	lebs := []int{7, 3, 5, 9}
	_, _, errno := x.Commit(lebs[:3])
	is(t, "Commit", errno, api.OK)
	alike(t, "lebs", lebs, []int{7, 3, 5, 9})
	for range 2 {
		l, _ := x.Range("", "", 30)
		l = l[:cap(l)]
		for i := range l {
			l[i] = image.Slot{Key: "x"}
		}
		holds(t, "behind a write", x, slots(numbered(30)...))
		got, _ := x.Lebs()
		want := slices.Clone(got)
		got = got[:cap(got)]
		for i := range got {
			got[i] = 77
		}
		lebsAre(t, "behind a write", x, want...)
	}
}

// TestApart: two indexes over one manager share nothing.
func TestApart(t *testing.T) {
	m := formatted(t, small)
	root := committed(t, filled(t, m, numbered(20)), 8)
	x, y := opened(t, m, root), opened(t, m, root)
	is(t, "Put", x.Put("0005", image.Place{}), api.OK)
	is(t, "Delete", first(x.Delete("0006")), true)
	holds(t, "the other", y, slots(numbered(20)...))
	is(t, "Dirty", y.Dirty(), false)
	is(t, "Touch", y.Touch(), api.OK)
	is(t, "Dirty", y.Dirty(), true)
	at, _, _ := x.Get("0005")
	is(t, "Get", at, image.Place{})
	committed(t, x, 4)
	is(t, "Root", y.Root(), root)
	holds(t, "the other", y, slots(numbered(20)...))
}

func first[A, B any](a A, _ B) A { return a }

func TestFailure(t *testing.T) {
	err := failed(image.Place{Leb: 3, Pos: 17, Size: 9}, api.EIO)
	is(t, "text", err.Error(), "node at 3, 17: pumice error 5")
	is(t, "told", told(err), api.EUCLEAN)
	is(t, "told", told(failed(image.Place{}, api.EINVAL)), api.EUCLEAN)
	is(t, "told", told(failed(image.Place{}, api.OK)), api.OK)
	for _, errno := range []api.Errno{api.ENXIO, api.EROFS, api.ENOSPC, api.EUCLEAN} {
		is(t, "told", told(failed(image.Place{}, errno)), errno)
	}
}
