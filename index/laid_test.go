package index

import (
	"bytes"
	"fmt"
	"math"
	"strings"
	"testing"

	"pumice/api"
	"pumice/ebm"
	"pumice/image"
)

// bad: nodes that may not stand below a slot of the level 1 with the key m, of which the next one has the key t.
func bad(t *testing.T, m *ebm.Manager) map[string]image.Place {
	t.Helper()
	leaf := packed(t, 0, slots("m", "n")...)
	unright := bytes.Replace(leaf, []byte("n"), []byte("a"), 1)
	at := lay(t, m, 8, leaf, []byte("no image"), unright, packed(t, 1, slots("m", "n")...), packed(t, 15, slots("m", "n")...), packed(t, 0, slots("l", "n")...), packed(t, 0, slots("m", "t")...))
	spoilt := lay(t, m, 10, leaf)[0]
	spoil(t, m, 10)
	good := at[0]
	return map[string]image.Place{
		"no image":          at[1],
		"not right":         at[2],
		"another level":     at[3],
		"the highest level": at[4],
		"keys ahead":        at[5],
		"keys behind":       at[6],
		"can't be read":     spoilt,
		"no frame":          {Leb: 8, Pos: good.Pos + 1, Size: good.Size},
		"an empty leb":      {Leb: 9, Pos: 0, Size: good.Size},
		"no leb":            {Leb: 12, Pos: good.Pos, Size: good.Size},
		"the greatest leb":  {Leb: 255, Pos: good.Pos, Size: good.Size},
		"a lesser size":     {Leb: 8, Pos: good.Pos, Size: good.Size - 1},
		"a greater size":    {Leb: 8, Pos: good.Pos, Size: good.Size + 1},
		"nothing":           {},
	}
}

// TestBelow: a node below that is none: what must look at it says EUCLEAN and changes nothing, all else is done.
func TestBelow(t *testing.T) {
	for what := range bad(t, formatted(t, small)) {
		m := formatted(t, small)
		wrong := bad(t, m)[what]
		a := lay(t, m, 3, packed(t, 0, slots("a", "b", "c", "d")...))[0]
		z := lay(t, m, 4, packed(t, 0, slots("t", "u", "v", "w")...))[0]
		root := lay(t, m, 5, packed(t, 1, image.Slot{Key: "a", At: a}, image.Slot{Key: "m", At: wrong}, image.Slot{Key: "t", At: z}))[0]
		x := opened(t, m, root)
		for _, key := range []string{"m", "n", "p", "s"} {
			at, ok, errno := x.Get(key)
			is(t, what+": Get", errno, api.EUCLEAN)
			is(t, what+": Get", at, image.Place{})
			is(t, what+": Get", ok, false)
			is(t, what+": Put", x.Put(key, image.Place{}), api.EUCLEAN)
			was, errno := x.Delete(key)
			is(t, what+": Delete", errno, api.EUCLEAN)
			is(t, what+": Delete", was, false)
		}
		for _, r := range [][2]string{{"", ""}, {"a", "n"}, {"d", "z"}, {"m", "n"}, {"p", ""}} {
			l, errno := x.Range(r[0], r[1], 9)
			is(t, what+": Range", errno, api.EUCLEAN)
			is(t, what+": Range", len(l), 0)
		}
		is(t, what+": Touch", x.Touch(), api.EUCLEAN)
		l, errno := x.Lebs()
		is(t, what+": Lebs", errno, api.EUCLEAN)
		is(t, what+": Lebs", len(l), 0)
		is(t, what+": Dirty", x.Dirty(), false)
		around(t, what, x, wrong.Leb)
	}
}

// around: what does not need the node that is none.
func around(t *testing.T, what string, x *Index, leb int) {
	t.Helper()
	m := x.m
	l, errno := x.Range("", "m", 9)
	is(t, what+": Range ahead", errno, api.OK)
	alike(t, what+": Range ahead", l, slots("a", "b", "c", "d"))
	l, errno = x.Range("", "", 4)
	is(t, what+": Range of the first", errno, api.OK)
	alike(t, what+": Range of the first", l, slots("a", "b", "c", "d"))
	l, errno = x.Range("t", "", 9)
	is(t, what+": Range behind", errno, api.OK)
	alike(t, what+": Range behind", l, slots("t", "u", "v", "w"))
	is(t, what+": Put ahead", x.Put("e", value("e")), api.OK)
	is(t, what+": Delete behind", first(x.Delete("u")), true)
	is(t, what+": Delete ahead", first(x.Delete("a")), true)
	is(t, what+": Delete ahead", first(x.Delete("b")), true)
	root, _, errno := x.Commit([]int{1})
	is(t, what+": Commit", errno, api.OK)
	y := opened(t, m, root)
	for _, z := range []*Index{x, y} {
		l, errno = z.Range("", "m", 9)
		is(t, what+": Range ahead", errno, api.OK)
		alike(t, what+": Range ahead", l, slots("c", "d", "e"))
		l, errno = z.Range("t", "", 9)
		is(t, what+": Range behind", errno, api.OK)
		alike(t, what+": Range behind", l, slots("t", "v", "w"))
		_, _, errno = z.Get("m")
		is(t, what+": Get", errno, api.EUCLEAN)
	}
	if leb < m.Lebs() {
		refused(t, what+": Commit to one of Lebs", y, []int{leb}, api.EINVAL)
	}
	darken(t, m.Chip())
	_, _, errno = y.Get("m")
	is(t, what+": Get with the power off", errno, api.ENXIO)
}

// TestBelowInner: a node that is none further up: what it leads to is not known, so nothing is written over.
func TestBelowInner(t *testing.T) {
	m := formatted(t, small)
	a := lay(t, m, 3, packed(t, 0, slots("a", "b", "c", "d")...))[0]
	upper := lay(t, m, 4, packed(t, 1, image.Slot{Key: "a", At: a}))[0]
	root := lay(t, m, 5, packed(t, 2, image.Slot{Key: "a", At: upper}, image.Slot{Key: "m", At: image.Place{Leb: 6, Size: 20}}))[0]
	x := opened(t, m, root)
	is(t, "Get", first(x2(x.Get("b"))), value("b"))
	_, errno := x.Lebs()
	is(t, "Lebs", errno, api.EUCLEAN)
	is(t, "Put", x.Put("b", image.Place{}), api.OK)
	refused(t, "Commit", x, []int{1}, api.EUCLEAN)
	refused(t, "Commit to nothing", x, nil, api.ENOSPC)
	refused(t, "Commit of what can't be", x, []int{1, 1}, api.EINVAL)
	spend(t, m)
	refused(t, "Commit where the manager is spent", x, []int{1}, api.EROFS)
}

func x2[A, B, C any](a A, b B, _ C) (A, B) { return a, b }

// TestLate: nodes below are looked at when they are needed: what stands there then counts.
func TestLate(t *testing.T) {
	m := formatted(t, small)
	leaf := packed(t, 0, slots("m", "n", "o", "p")...)
	a := lay(t, m, 3, packed(t, 0, slots("a", "b", "c", "d")...))[0]
	root := lay(t, m, 5, leaf, packed(t, 1, image.Slot{Key: "a", At: a}, image.Slot{Key: "m", At: image.Place{Leb: 4, Size: 6 + len(leaf)}}))[1]
	x := opened(t, m, root)
	_, _, errno := x.Get("m")
	is(t, "Get of what is not there yet", errno, api.EUCLEAN)
	lay(t, m, 4, leaf)
	at, ok, errno := x.Get("m")
	is(t, "Get", errno, api.OK)
	is(t, "Get", ok, true)
	is(t, "Get", at, value("m"))
	is(t, "Unmap", m.Unmap(3), api.OK)
	_, _, errno = x.Get("a")
	is(t, "Get of what is gone", errno, api.EUCLEAN)
}

// TestOtherShapes: trees that are parted otherwise: thinly, unevenly, with keys above that are lesser than those below.
func TestOtherShapes(t *testing.T) {
	m := formatted(t, large)
	a := lay(t, m, 3, packed(t, 0, slots("b")...), packed(t, 0, slots("g", "h", "i", "j", "k", "l", "m", "n")...), packed(t, 0, slots("s", "t")...))
	up := lay(t, m, 4, packed(t, 1, image.Slot{Key: "a", At: a[0]}, image.Slot{Key: "c", At: a[1]}), packed(t, 1, image.Slot{Key: "o" + strings.Repeat("x", 63), At: a[2]}))
	root := lay(t, m, 5, packed(t, 2, image.Slot{Key: "\x00", At: up[0]}, image.Slot{Key: "nn", At: up[1]}))[0]
	keys := []string{"b", "g", "h", "i", "j", "k", "l", "m", "n", "s", "t"}
	holds(t, "laid", opened(t, m, root), slots(keys...))
	others := []string{"\x00", "a", "aa", "bb", "c", "f", "ga", "nm", "nn", "no", "o", "p", "z", "\xff"}
	for _, key := range others {
		_, ok, errno := opened(t, m, root).Get(key)
		is(t, "Get of none", errno, api.OK)
		is(t, "Get of none", ok, false)
		x := opened(t, m, root)
		is(t, "Put", x.Put(key, value(key)), api.OK)
		holds(t, "Put "+key, x, with(slots(keys...), slots(key)[0]))
		holds(t, "Put and Commit "+key, opened(t, m, committed(t, x, 0)), with(slots(keys...), slots(key)[0]))
	}
	for _, key := range keys {
		x := opened(t, m, root)
		is(t, "Delete", first(x.Delete(key)), true)
		holds(t, "Delete "+key, x, without(slots(keys...), key))
		holds(t, "Delete and Commit "+key, opened(t, m, committed(t, x, 0)), without(slots(keys...), key))
		want := slots(keys...)
		for i := range keys {
			gone := keys[(i+len(key))%len(keys)]
			_, errno := x.Delete(gone)
			is(t, "Delete", errno, api.OK)
			want = without(want, gone)
			holds(t, "Delete "+gone, x, without(want, key))
		}
	}
	x := opened(t, m, root)
	want := slots(keys...)
	for _, key := range others {
		is(t, "Put", x.Put(key, value(key)), api.OK)
		want = with(want, slots(key)[0])
	}
	holds(t, "all", x, want)
	holds(t, "all committed", opened(t, m, committed(t, x, 0)), want)
}

// high: a tree of all levels that an image can have, in which one way down is full: on each level a node has one slot that goes on, and Fan - 1 behind it, whose nodes have one slot each.
func high(t *testing.T, m *ebm.Manager) (image.Place, []string) {
	t.Helper()
	leb, used := 10, 0
	put := func(level int, slots ...image.Slot) image.Place {
		if used++; used > m.Pages()/2 {
			leb, used = leb+1, 1
		}
		return lay(t, m, leb, packed(t, level, slots...))[0]
	}
	leaf := slots("\x01a", "\x01b", "\x01c", "\x01d", "\x01e", "\x01f", "\x01g", "\x01h")
	way := put(0, leaf...)
	var keys []string
	for _, s := range leaf {
		keys = append(keys, s.Key)
	}
	for level := 1; level <= 15; level++ {
		on := []image.Slot{{Key: "\x01a", At: way}}
		for n := range image.Fan - 1 {
			key := fmt.Sprintf("%c%d", 'a'+level, n)
			at := put(0, slots(key)...)
			for l := 1; l < level; l++ {
				at = put(l, image.Slot{Key: key, At: at})
			}
			on = append(on, image.Slot{Key: key, At: at})
			keys = append(keys, key)
		}
		way = put(level, on...)
	}
	return way, keys
}

// TestHigh: a tree of the greatest level takes one key more where it is full.
func TestHigh(t *testing.T) {
	m := formatted(t, large)
	root, keys := high(t, m)
	want := slots(keys...)
	x := opened(t, m, root)
	holds(t, "high", x, want)
	is(t, "Put of the same", x.Put("\x01b", value("\x01b")), api.OK)
	is(t, "Dirty", x.Dirty(), false)
	is(t, "Put", x.Put("\x01bb", value("\x01bb")), api.OK)
	want = with(want, slots("\x01bb")[0])
	holds(t, "one more", x, want)
	at, _, errno := x.Commit([]int{0, 1, 2, 3})
	is(t, "Commit", errno, api.OK)
	holds(t, "committed", opened(t, m, at), want)
	// Where a node is none the tree can't be parted anew.
	y := opened(t, m, root)
	is(t, "Get", first(x2(y.Get("\x01b"))), value("\x01b"))
	is(t, "Unmap", m.Unmap(12), api.OK)
	is(t, "Put", y.Put("\x01bb", image.Place{}), api.EUCLEAN)
	is(t, "Dirty", y.Dirty(), false)
	is(t, "Put of another place", y.Put("\x01b", image.Place{}), api.OK)
	l, errno := y.Range("", "\x01c", math.MaxInt)
	is(t, "Range", errno, api.OK)
	alike(t, "Range", l, []image.Slot{{Key: "\x01a", At: value("\x01a")}, {Key: "\x01b"}})
}

// TestBoundsAbove: how far keys may go is told by the nodes above all of them, not only by the next one.
func TestBoundsAbove(t *testing.T) {
	m := formatted(t, small)
	leaves := lay(t, m, 3, packed(t, 0, slots("a", "b")...), packed(t, 0, slots("f", "z")...), packed(t, 0, slots("m", "n")...), packed(t, 0, slots("f", "l")...))
	laid := func(leb int, second image.Place) image.Place {
		inner := lay(t, m, leb, packed(t, 1, image.Slot{Key: "a", At: leaves[0]}, image.Slot{Key: "f", At: second}), packed(t, 1, image.Slot{Key: "m", At: leaves[2]}))
		return lay(t, m, leb, packed(t, 2, image.Slot{Key: "a", At: inner[0]}, image.Slot{Key: "m", At: inner[1]}))[0]
	}
	holds(t, "right", opened(t, m, laid(4, leaves[3])), slots("a", "b", "f", "l", "m", "n"))
	root := laid(5, leaves[1])
	for range 2 {
		x := opened(t, m, root)
		_, _, errno := x.Get("f")
		is(t, "Get", errno, api.EUCLEAN)
		is(t, "Put", x.Put("g", image.Place{}), api.EUCLEAN)
		_, errno = x.Delete("f")
		is(t, "Delete", errno, api.EUCLEAN)
		_, errno = x.Range("", "", 9)
		is(t, "Range", errno, api.EUCLEAN)
		is(t, "Delete next to it", first(x.Delete("a")), true)
		holds(t, "next to it", opened(t, m, laid(6, leaves[3])), slots("a", "b", "f", "l", "m", "n"))
	}
}

// TestOneForAll: where each slot of each node leads to one and the same node below, the calls end nevertheless.
func TestOneForAll(t *testing.T) {
	m := formatted(t, large)
	at := lay(t, m, 3, packed(t, 0, slots("a", "b", "c")...))[0]
	for level := 1; level <= 15; level++ {
		var all []image.Slot
		for n := range image.Fan {
			all = append(all, image.Slot{Key: string(rune('a' + n)), At: at})
		}
		at = lay(t, m, 3, packed(t, level, all...))[0]
	}
	x := opened(t, m, at)
	_, errno := x.Range("", "", math.MaxInt)
	is(t, "Range", errno, api.EUCLEAN)
	_, errno = x.Lebs()
	is(t, "Lebs", errno, api.EUCLEAN)
	is(t, "Touch", x.Touch(), api.EUCLEAN)
	_, _, errno = x.Commit([]int{5})
	is(t, "Commit", errno, api.EUCLEAN)
}
