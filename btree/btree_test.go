package btree

import (
	"math"
	"slices"
	"strings"
	"testing"

	"pumice/api"
)

func is[T comparable](t *testing.T, what string, got, want T) {
	t.Helper()
	if got != want {
		t.Errorf("%s: %+v, not %+v", what, got, want)
	}
}

func same[T comparable](t *testing.T, what string, got, want []T) {
	t.Helper()
	if !slices.Equal(got, want) {
		t.Errorf("%s: %+v, not %+v", what, got, want)
	}
}

func empty(t *testing.T, fan int) *Tree {
	t.Helper()
	x, errno := New(fan)
	if errno != api.OK || x == nil {
		t.Fatalf("New(%d): %v, %v", fan, x, errno)
	}
	return x
}

// valued: the value that a key has in these tests, if nothing else is said.
func valued(key string) string { return "v" + key }

// nodes: of keys, as Range tells them.
func nodes(keys ...string) []api.Node {
	l := []api.Node{}
	for _, k := range keys {
		l = append(l, api.Node{Key: k, Value: valued(k)})
	}
	return l
}

func put(t *testing.T, x *Tree, keys ...string) {
	t.Helper()
	for _, k := range keys {
		is(t, "Put of "+k, x.Put(k, valued(k)), api.OK)
	}
}

func tree(t *testing.T, fan int, keys ...string) *Tree {
	t.Helper()
	x := empty(t, fan)
	put(t, x, keys...)
	return x
}

// letters: a text's bytes, a key each.
func letters(text string) []string { return strings.Split(text, "") }

// numbered: n keys that rise by bytes, with a step between them in which others have room.
func numbered(n int) []string {
	l := make([]string, n)
	for i := range l {
		l[i] = string([]byte{byte(i >> 7), byte(i<<1) | 1})
	}
	return l
}

// F8.1
func TestNew(t *testing.T) {
	for _, fan := range []int{4, 5, 6, 7, 32, 63, 64} {
		x := empty(t, fan)
		is(t, "Len", x.Len(), 0)
		is(t, "Height", x.Height(), 1)
		l := x.Shapes()
		if len(l) != 1 || l[0].Level != 0 || len(l[0].Keys) != 0 || !l[0].Dirty {
			t.Errorf("Shapes of New(%d): %+v", fan, l)
		}
		is(t, "Clean", x.Clean(), 1)
		is(t, "Clean again", x.Clean(), 0)
	}
	for _, fan := range []int{3, 65, 2, 1, 0, -1, -4, 128, 4 + 1<<32, math.MaxInt, math.MinInt} {
		x, errno := New(fan)
		is(t, "New of a fan that can't be", errno, api.EINVAL)
		is(t, "its tree", x, nil)
	}
}

// F8.1: the fan is kept to: a leaf of so many keys is the root, one more parts it.
func TestFan(t *testing.T) {
	for _, fan := range []int{4, 5, 6, 7, 63, 64} {
		keys := numbered(fan + 1)
		x := tree(t, fan, keys[:fan]...)
		is(t, "Height of a full leaf", x.Height(), 1)
		put(t, x, keys[fan])
		is(t, "Height behind one more", x.Height(), 2)
		l := x.Shapes()
		is(t, "nodes", len(l), 3)
		is(t, "keys of the root", len(l[0].Keys), 2)
	}
}

// F8.1
func TestBuild(t *testing.T) {
	long := strings.Repeat("k", api.MaxKey)
	wide := strings.Repeat("v", api.MaxValue)
	gone := func(key string) api.Node { return api.Node{Key: key, Gone: true} }
	for _, x := range []struct {
		what string
		l    []api.Node
		want []api.Node
	}{
		{"no list", nil, nil},
		{"no node", []api.Node{}, nil},
		{"one", nodes("a"), nodes("a")},
		{"turned", nodes("c", "b", "a"), nodes("a", "b", "c")},
		{"many", nodes(letters("qwertyuiopasdfghjklzxcvbnm")...), nodes(letters("abcdefghijklmnopqrstuvwxyz")...)},
		{"one key twice", []api.Node{{Key: "a", Value: "1"}, {Key: "a", Value: "2"}}, []api.Node{{Key: "a", Value: "2"}}},
		{"gone behind", append(nodes("a", "b"), gone("a")), nodes("b")},
		{"gone ahead", append([]api.Node{gone("a")}, nodes("a", "b")...), nodes("a", "b")},
		{"gone and back", append(nodes("a"), gone("a"), api.Node{Key: "a", Value: "2"}), []api.Node{{Key: "a", Value: "2"}}},
		{"gone that was never there", []api.Node{gone("a"), gone("a")}, nil},
		{"gone with a value", append(nodes("a", "b"), api.Node{Key: "a", Value: wide + "v", Gone: true}), nodes("b")},
		{"gone of what no key can be", append(nodes("a"), gone(""), gone(long+"k")), nodes("a")},
		{"at the limits", []api.Node{{Key: long, Value: wide}, {Key: "k"}}, []api.Node{{Key: "k"}, {Key: long, Value: wide}}},
	} {
		for _, fan := range []int{4, 5, 64} {
			was := slices.Clone(x.l)
			b, errno := Build(fan, x.l)
			is(t, "Build of "+x.what, errno, api.OK)
			same(t, "Build of "+x.what, b.Range("", "", math.MaxInt), x.want)
			is(t, "Len", b.Len(), len(x.want))
			is(t, "Sound", Sound(b.Shapes(), fan), true)
			same(t, "the list is as it was", x.l, was)
		}
	}
	for _, x := range []struct {
		what string
		fan  int
		l    []api.Node
	}{
		{"a fan of 3", 3, nil},
		{"a fan of 65", 65, nodes("a")},
		{"a fan of 3, and a key", 3, nodes("")},
		{"a key of no byte", 4, nodes("")},
		{"a key of no byte, last", 4, append(nodes(letters("abcdefghij")...), api.Node{Value: "v"})},
		{"a key of no byte, first", 4, append([]api.Node{{}}, nodes("a", "b")...)},
		{"a key too long", 4, nodes("a", long+"k")},
		{"a value too long", 4, []api.Node{{Key: "a", Value: wide + "v"}}},
		{"a key that is gone again", 4, []api.Node{{Key: long + "k"}, gone(long + "k")}},
		{"a value that is overwritten", 64, []api.Node{{Key: "a", Value: wide + "v"}, {Key: "a"}}},
	} {
		b, errno := Build(x.fan, x.l)
		is(t, "Build of "+x.what, errno, api.EINVAL)
		is(t, "its tree", b, nil)
	}
}

// F8.2
func TestGetPut(t *testing.T) {
	x := empty(t, 4)
	v, ok := x.Get("a")
	is(t, "Get of an empty tree", v, "")
	is(t, "Get of an empty tree", ok, false)
	put(t, x, letters("mfzcqahk")...)
	for _, k := range letters("mfzcqahk") {
		v, ok := x.Get(k)
		is(t, "Get", v, valued(k))
		is(t, "Get", ok, true)
	}
	for _, k := range []string{"", "\x00", "A", "b", "cc", "d", "g", "n", "y", "zz", "\xff", "a\x00", strings.Repeat("m", api.MaxKey), strings.Repeat("m", 1000)} {
		v, ok := x.Get(k)
		is(t, "Get of what is not there", v, "")
		is(t, "Get of what is not there", ok, false)
	}
	is(t, "Put of another value", x.Put("c", "other"), api.OK)
	is(t, "Put of no value", x.Put("f", ""), api.OK)
	is(t, "Len", x.Len(), 8)
	v, ok = x.Get("c")
	is(t, "Get", v, "other")
	is(t, "Get", ok, true)
	v, ok = x.Get("f")
	is(t, "Get of no value", v, "")
	is(t, "Get of no value", ok, true)
}

// F8.2: keys and values at their limits, and one beyond.
func TestLimits(t *testing.T) {
	for _, keys := range [][]string{nil, {"b", "d"}, letters("acegikmoqsuwy")} {
		for _, c := range []struct {
			key, value int
			want       api.Errno
		}{
			{0, 0, api.EINVAL},
			{0, 1, api.EINVAL},
			{0, api.MaxValue + 1, api.EINVAL},
			{1, 0, api.OK},
			{1, 1, api.OK},
			{1, api.MaxValue, api.OK},
			{1, api.MaxValue + 1, api.EINVAL},
			{api.MaxKey, 0, api.OK},
			{api.MaxKey, api.MaxValue, api.OK},
			{api.MaxKey, api.MaxValue + 1, api.EINVAL},
			{api.MaxKey + 1, 0, api.EINVAL},
			{api.MaxKey + 1, api.MaxValue + 1, api.EINVAL},
			{10000, 10, api.EINVAL},
			{10, 10000, api.EINVAL},
		} {
			x := tree(t, 4, keys...)
			x.Clean()
			key, value := strings.Repeat("n", c.key), strings.Repeat("v", c.value)
			is(t, "Put", x.Put(key, value), c.want)
			v, ok := x.Get(key)
			if c.want == api.OK {
				is(t, "Get", v, value)
				is(t, "Get", ok, true)
				is(t, "Len", x.Len(), len(keys)+1)
				continue
			}
			is(t, "Get", ok, false)
			is(t, "Delete", x.Delete(key), false)
			is(t, "Len", x.Len(), len(keys))
			is(t, "dirty behind what can't be", x.Clean(), 0)
		}
	}
	x := tree(t, 4, "a")
	is(t, "Put of a value too long", x.Put("a", strings.Repeat("v", api.MaxValue+1)), api.EINVAL)
	v, _ := x.Get("a")
	is(t, "the value is as it was", v, valued("a"))
}

// F8.2
func TestDelete(t *testing.T) {
	x := empty(t, 4)
	is(t, "Delete of an empty tree", x.Delete("a"), false)
	put(t, x, letters("mfzcqahk")...)
	for _, k := range []string{"", "b", "A", "zz", "\xff", strings.Repeat("m", 100)} {
		is(t, "Delete of what is not there", x.Delete(k), false)
	}
	is(t, "Len", x.Len(), 8)
	for i, k := range letters("cqmazhfk") {
		is(t, "Delete", x.Delete(k), true)
		is(t, "Delete again", x.Delete(k), false)
		_, ok := x.Get(k)
		is(t, "Get", ok, false)
		is(t, "Len", x.Len(), 7-i)
		is(t, "Sound", Sound(x.Shapes(), 4), true)
	}
	is(t, "Height", x.Height(), 1)
	put(t, x, "b")
	same(t, "Range", x.Range("", "", 9), nodes("b"))
}

// The order is by bytes, whatever they are: no runes, no signs.
func TestBytes(t *testing.T) {
	want := []string{"\x00", "\x00\x00", "\x00\xff", "\x01", "A", "Z", "a", "a\x00", "aa", "\x7f", "\x7f\xff", "\x80", "\x80\x80", "\xc3\xa4", "\xe2\x82\xac", "\xff", "\xff\x00", "\xff\xff", strings.Repeat("\xff", api.MaxKey)}
	turned := slices.Clone(want)
	slices.Reverse(turned)
	for _, fan := range []int{4, 5, 64} {
		x := tree(t, fan, turned...)
		same(t, "Range", x.Range("", "", 99), nodes(want...))
		same(t, "Range from \\x80", x.Range("\x80", "\xff", 99), nodes("\x80", "\x80\x80", "\xc3\xa4", "\xe2\x82\xac"))
		is(t, "Sound", Sound(x.Shapes(), fan), true)
		n, ok := x.Next("\x7f\xff")
		is(t, "Next", n, nodes("\x80")[0])
		is(t, "Next", ok, true)
		is(t, "Delete", x.Delete("\x80"), true)
		v, ok := x.Get("\x80\x80")
		is(t, "Get", v, valued("\x80\x80"))
		is(t, "Get", ok, true)
	}
}

// F8.3
func TestRange(t *testing.T) {
	alone := tree(t, 4, "d")
	small := tree(t, 4, letters("bdf")...)
	great := tree(t, 4, letters("bdfhjlnprtvxz")...)
	greatKeys := letters("bdfhjlnprtvxz")
	is(t, "levels of the great one", great.Height() > 2, true)
	for _, c := range []struct {
		x        *Tree
		from, to string
		most     int
		want     []string
	}{
		{empty(t, 4), "", "", 9, nil},
		{empty(t, 4), "a", "z", 9, nil},
		{alone, "", "", 9, letters("d")},
		{alone, "d", "e", 9, letters("d")},
		{alone, "e", "", 9, nil},
		{alone, "", "d", 9, nil},
		{small, "", "", 9, letters("bdf")},
		{small, "", "", 3, letters("bdf")},
		{small, "", "", 2, letters("bd")},
		{small, "c", "e", 9, letters("d")},
		{great, "", "", 99, greatKeys},
		{great, "", "", math.MaxInt, greatKeys},
		{great, "", "", 13, greatKeys},
		{great, "", "", 12, greatKeys[:12]},
		{great, "", "", 1, letters("b")},
		{great, "", "", 0, nil},
		{great, "", "", -1, nil},
		{great, "", "", math.MinInt, nil},
		{great, "a", "", 99, greatKeys},
		{great, "b", "", 99, greatKeys},
		{great, "b\x00", "", 99, greatKeys[1:]},
		{great, "c", "", 99, greatKeys[1:]},
		{great, "n", "", 99, letters("nprtvxz")},
		{great, "m", "", 99, letters("nprtvxz")},
		{great, "o", "", 99, letters("prtvxz")},
		{great, "z", "", 99, letters("z")},
		{great, "z\x00", "", 99, nil},
		{great, "\xff", "", 99, nil},
		{great, "", "n", 99, letters("bdfhjl")},
		{great, "", "n\x00", 99, letters("bdfhjln")},
		{great, "", "m", 99, letters("bdfhjl")},
		{great, "", "b", 99, nil},
		{great, "", "a", 99, nil},
		{great, "", "c", 99, letters("b")},
		{great, "", "\xff", 99, greatKeys},
		{great, "f", "p", 99, letters("fhjln")},
		{great, "e", "q", 99, letters("fhjlnp")},
		{great, "f", "p", 2, letters("fh")},
		{great, "f", "p", 1, letters("f")},
		{great, "f", "p", 0, nil},
		{great, "f", "p", -9, nil},
		{great, "f", "p", 5, letters("fhjln")},
		{great, "f", "h", 99, letters("f")},
		{great, "f", "f", 99, nil},
		{great, "g", "g", 99, nil},
		{great, "p", "f", 99, nil},
		{great, "q", "e", 99, nil},
		{great, "g", "h", 99, nil},
		{great, strings.Repeat("k", 1000), "", 2, letters("ln")},
		{great, "", strings.Repeat("c", 1000), 9, letters("b")},
	} {
		same(t, "Range("+c.from+", "+c.to+")", c.x.Range(c.from, c.to, c.most), nodes(c.want...))
	}
}

// F8.3
func TestNext(t *testing.T) {
	great := tree(t, 4, letters("bdfhjlnprtvxz")...)
	for _, c := range []struct {
		x         *Tree
		key, want string
	}{
		{great, "", "b"}, {great, "a", "b"}, {great, "\x00", "b"},
		{great, "b", "d"}, {great, "c", "d"}, {great, "b\x00", "d"},
		{great, "d", "f"}, {great, "f", "h"}, {great, "h", "j"}, {great, "j", "l"}, {great, "l", "n"},
		{great, "n", "p"}, {great, "p", "r"}, {great, "r", "t"}, {great, "t", "v"}, {great, "v", "x"}, {great, "x", "z"},
		{great, "e", "f"}, {great, "m", "n"}, {great, "y", "z"}, {great, strings.Repeat("m", 1000), "n"},
		{great, "z", ""}, {great, "z\x00", ""}, {great, "\xff", ""},
		{empty(t, 4), "", ""}, {empty(t, 4), "a", ""},
		{tree(t, 4, "a"), "", "a"}, {tree(t, 4, "a"), "a", ""},
	} {
		n, ok := c.x.Next(c.key)
		is(t, "Next of "+c.key, ok, c.want != "")
		if c.want == "" {
			is(t, "Next of "+c.key, n, api.Node{})
			continue
		}
		is(t, "Next of "+c.key, n, nodes(c.want)[0])
	}
}

// The answers of a tree that is nil.
func TestNil(t *testing.T) {
	var x *Tree
	v, ok := x.Get("a")
	is(t, "Get", v, "")
	is(t, "Get", ok, false)
	is(t, "Put", x.Put("a", "b"), api.EFAULT)
	is(t, "Put of no key", x.Put("", ""), api.EFAULT)
	is(t, "Put of a value too long", x.Put("a", strings.Repeat("v", 300)), api.EFAULT)
	is(t, "Delete", x.Delete("a"), false)
	is(t, "Delete of no key", x.Delete(""), false)
	is(t, "Range", len(x.Range("", "", 9)), 0)
	is(t, "Range", len(x.Range("a", "b", -1)), 0)
	n, ok := x.Next("")
	is(t, "Next", n, api.Node{})
	is(t, "Next", ok, false)
	is(t, "Len", x.Len(), 0)
	is(t, "Height", x.Height(), 0)
	is(t, "Shapes", len(x.Shapes()), 0)
	is(t, "Clean", x.Clean(), 0)
	is(t, "Clone", x.Clone(), nil)
}

// The chapter's examples.
func TestExamples(t *testing.T) {
	x := tree(t, 4, letters("abcde")...)
	is(t, "Height", x.Height(), 2)
	root := x.Shapes()[0]
	is(t, "keys of the root", len(root.Keys) == 2 || len(root.Keys) == 3, true)
	is(t, "Clean", x.Clean(), 1+len(root.Keys))
	put(t, x, "c")
	is(t, "Clean behind the same", x.Clean(), 0)
	for _, k := range letters("abcd") {
		is(t, "Delete", x.Delete(k), true)
	}
	is(t, "Height", x.Height(), 1)
	l := x.Shapes()
	is(t, "nodes", len(l), 1)
	is(t, "its level", l[0].Level, 0)
	same(t, "its keys", l[0].Keys, letters("e"))
}

// F8.4: the root first, then level by level, each from the left to the right.
func TestShapes(t *testing.T) {
	keys := numbered(200)
	x := tree(t, 4, keys...)
	l := x.Shapes()
	is(t, "the root's level", l[0].Level, x.Height()-1)
	var leaves []string
	nodesOn, keysOn := make([]int, x.Height()), make([]int, x.Height())
	for i, s := range l {
		if i > 0 && s.Level > l[i-1].Level {
			t.Errorf("the node %d has the level %d behind %d", i, s.Level, l[i-1].Level)
		}
		nodesOn[s.Level]++
		keysOn[s.Level] += len(s.Keys)
		if s.Level == 0 {
			leaves = append(leaves, s.Keys...)
		}
	}
	same(t, "the leaves' keys", leaves, keys)
	for level := range x.Height() - 1 {
		is(t, "nodes of a level", nodesOn[level], keysOn[level+1])
	}
	is(t, "roots", nodesOn[x.Height()-1], 1)
}

// What is handed out is new: what is written into it, or into its spare room, nobody sees.
func TestHandedOut(t *testing.T) {
	keys := letters("abcdefghijklmnop")
	x := tree(t, 4, keys...)
	shapes := x.Shapes()
	was := cloned(shapes)
	for _, s := range shapes {
		scrawl(s.Keys[len(s.Keys):], "?")
	}
	alike(t, "Shapes behind what was written into spare room", shapes, was)
	for _, s := range shapes {
		scrawl(s.Keys, "?")
	}
	scrawl(shapes, Shape{Level: 9})
	scrawl(x.Range("", "", 99), api.Node{Key: "?"})
	alike(t, "Shapes", x.Shapes(), was)
	same(t, "Range", x.Range("", "", 99), nodes(keys...))
}

// scrawl: over a list, and over its spare room.
func scrawl[T any](l []T, x T) {
	l = l[:cap(l)]
	for i := range l {
		l[i] = x
	}
}

// F8.4
func TestClone(t *testing.T) {
	for _, n := range []int{0, 1, 4, 5, 13, 100} {
		keys := numbered(n)
		x := tree(t, 4, keys...)
		if n == 13 {
			x.Clean()
			is(t, "Put", x.Put(keys[6], "new"), api.OK)
			is(t, "Put", x.Put(keys[6], valued(keys[6])), api.OK)
		}
		y := x.Clone()
		is(t, "Len", y.Len(), n)
		is(t, "Height", y.Height(), x.Height())
		alike(t, "Shapes of the clone", y.Shapes(), x.Shapes())
		same(t, "Range of the clone", y.Range("", "", 999), nodes(keys...))

		was := x.Shapes()
		for _, k := range keys {
			is(t, "Put into the clone", y.Put(k, "other"), api.OK)
		}
		put(t, y, "new")
		y.Clean()
		alike(t, "Shapes of the tree", x.Shapes(), was)
		same(t, "Range of the tree", x.Range("", "", 999), nodes(keys...))

		was, held := y.Shapes(), y.Range("", "", 999)
		for _, k := range keys {
			is(t, "Delete from the tree", x.Delete(k), true)
		}
		put(t, x, "old")
		alike(t, "Shapes of the clone", y.Shapes(), was)
		same(t, "Range of the clone", y.Range("", "", 999), held)
		is(t, "Len of the clone", y.Len(), n+1)
		is(t, "Len of the tree", x.Len(), 1)
		is(t, "the clone is clean", y.Clean(), 0)

		// The clone has the same fan.
		for _, k := range numbered(120) {
			put(t, y, k)
			is(t, "Sound", Sound(y.Shapes(), 4), true)
		}
	}
}

// alike: two lists of shapes.
func alike(t *testing.T, what string, got, want []Shape) {
	t.Helper()
	ok := slices.EqualFunc(got, want, func(a, b Shape) bool {
		return a.Level == b.Level && a.Dirty == b.Dirty && slices.Equal(a.Keys, b.Keys)
	})
	if !ok {
		t.Errorf("%s: %+v, not %+v", what, got, want)
	}
}

// Two trees share nothing.
func TestTwo(t *testing.T) {
	x, y := tree(t, 4, letters("abcdef")...), tree(t, 5, letters("uvwxyz")...)
	x.Delete("a")
	y.Delete("z")
	same(t, "the first", x.Range("", "", 9), nodes(letters("bcdef")...))
	same(t, "the second", y.Range("", "", 9), nodes(letters("uvwxy")...))
}
