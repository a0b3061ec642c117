package audit

import (
	"fmt"
	"slices"
	"strings"
	"testing"

	"pumice/api"
	"pumice/node"
)

// sure: what a call of node makes.
func sure(n api.Node, errno api.Errno) api.Node {
	if errno != api.OK {
		panic(errno)
	}
	return n
}

func inode(ino, kind, links, size int) api.Node {
	return sure(node.Inode(api.Inode{Ino: ino, Kind: kind, Mode: 420, Uid: 7, Gid: 8, Links: links, Size: size}))
}

func entry(dir int, name string, ino, kind int) api.Node {
	return sure(node.Entry(dir, api.Entry{Name: name, Ino: ino, Kind: kind}))
}

func block(ino, n, size int) api.Node { return sure(node.Block(ino, n, make([]byte, size))) }
func orphan(ino int) api.Node         { return sure(node.Orphan(ino)) }
func file(ino, links int) api.Node    { return inode(ino, api.File, links, 0) }
func dir(ino, links int) api.Node     { return inode(ino, api.Dir, links, 0) }
func raw(key, value string) api.Node  { return api.Node{Key: key, Value: value} }
func gone(key string) api.Node        { return api.Node{Key: key, Gone: true} }

// long: so many bytes.
func long(size int) string { return strings.Repeat("x", size) }

// keyText: i2 of an inode, e1/a of an entry, b2.0 of a block, o2 of an orphan; of other keys their bytes.
func keyText(key string) string {
	kind, ino, name, block := node.Kind(key)
	switch kind {
	case 1:
		return fmt.Sprintf("i%d", ino)
	case 2:
		return fmt.Sprintf("e%d/%s", ino, name)
	case 3:
		return fmt.Sprintf("b%d.%d", ino, block)
	case 4:
		return fmt.Sprintf("o%d", ino)
	}
	return fmt.Sprintf("x%x", key)
}

// told: findings as a text.
func told(l []Finding) string {
	var b strings.Builder
	for _, f := range l {
		fmt.Fprintf(&b, "%d %s, ", f.Kind, keyText(f.Key))
	}
	return strings.TrimSuffix(b.String(), ", ")
}

func is[T comparable](t *testing.T, what string, got, want T) {
	t.Helper()
	if got != want {
		t.Errorf("%s: %v, not %v", what, got, want)
	}
}

func same(t *testing.T, what string, got, want []int) {
	t.Helper()
	if !slices.Equal(got, want) {
		t.Errorf("%s: %v, not %v", what, got, want)
	}
}

// finds: Check and Sound of a list, in its order and in the other one, if no key stands there twice.
func finds(t *testing.T, what string, l []api.Node, want string) {
	t.Helper()
	is(t, what, told(Check(l)), want)
	is(t, what+": Sound", Sound(l), want == "")
	if !twice(l) {
		turned := slices.Clone(l)
		slices.Reverse(turned)
		is(t, what+", turned round", told(Check(turned)), want)
	}
}

func twice(l []api.Node) bool {
	keys := map[string]bool{}
	for _, n := range l {
		keys[n.Key] = true
	}
	return len(keys) < len(l)
}

// a list, and what Check finds in it.
type found struct {
	what string
	l    []api.Node
	want string
}

func allFound(t *testing.T, all []found) {
	t.Helper()
	for _, f := range all {
		finds(t, f.what, f.l, f.want)
	}
}

// with: the root, and these.
func with(links int, l ...api.Node) []api.Node { return append([]api.Node{dir(1, links)}, l...) }

func TestExamples(t *testing.T) {
	allFound(t, []found{
		{"none", nil, "11 i1"},
		{"none, an empty list", []api.Node{}, "11 i1"},
		{"the root", with(2), ""},
		{"an entry to none", with(2, entry(1, "a", 2, api.File)), "3 e1/a"},
		{"a File without an entry", with(2, file(2, 1)), "7 i2, 8 i2"},
		{"the root with a Link less", with(2, entry(1, "d", 2, api.Dir), dir(2, 2)), "7 i1"},
	})
}

func TestSoundOnes(t *testing.T) {
	allFound(t, []found{
		{"a File", with(2, entry(1, "a", 2, api.File), file(2, 1)), ""},
		{"a File with two names", with(2, entry(1, "a", 2, api.File), entry(1, "b", 2, api.File), file(2, 2)), ""},
		{"a Link with its bytes", with(2, entry(1, "l", 2, api.Link), inode(2, api.Link, 1, 130), block(2, 0, 128), block(2, 1, 2)), ""},
		{"a Link with two names", with(2, entry(1, "l", 2, api.Link), entry(1, "m", 2, api.Link), inode(2, api.Link, 2, 0)), ""},
		{"Dirs", with(4, entry(1, "a", 2, api.Dir), entry(1, "b", 3, api.Dir), dir(2, 3), entry(2, "c", 4, api.Dir), dir(3, 2), dir(4, 2)), ""},
		{"a File below, with a name above", with(3, entry(1, "d", 2, api.Dir), entry(1, "f", 3, api.File), dir(2, 2), entry(2, "f", 3, api.File), file(3, 2)), ""},
		{"a File with holes", with(2, entry(1, "a", 2, api.File), inode(2, api.File, 1, 16384), block(2, 5, 1), block(2, 127, 128)), ""},
		{"orphans", with(2, orphan(2), orphan(3), orphan(4096), file(2, 0), dir(3, 0), inode(4096, api.Link, 0, 9), block(4096, 0, 9)), ""},
		{"an orphan with a name", with(2, orphan(2), entry(1, "a", 2, api.File), file(2, 1), block(2, 0, 1)), ""},
		{"the greatest number", with(2, entry(1, "a", 4096, api.File), file(4096, 1)), ""},
		{"names of all sizes", with(2, entry(1, "a", 2, api.File), entry(1, long(24), 2, api.File), file(2, 2)), ""},
	})
}

// 1: the node itself.

func TestWrongKeys(t *testing.T) {
	for _, key := range []string{
		"", "\x00", "\x00\x01", "a", long(64), long(100),
		"\x00\x01\x00", "\x00\x01\x04", "\x00\x01\x05", "\x00\x01\x04\x00\x02", "\x00\x01\x01\x00",
		node.InodeKey(0), node.InodeKey(4097), node.InodeKey(65535),
		node.EntryKey(0, "a"), node.EntryKey(4097, "a"),
		node.EntryKey(1, ""), node.EntryKey(1, "."), node.EntryKey(1, ".."), node.EntryKey(1, "a/b"), node.EntryKey(1, "a\x00"), node.EntryKey(1, long(25)),
		node.BlockKey(0, 0), node.BlockKey(4097, 0), node.BlockKey(2, 128), node.BlockKey(2, 65535), node.BlockKey(2, 0) + "x", "\x00\x02\x03\x00",
		node.OrphanKey(0), node.OrphanKey(4097), node.OrphanKey(2) + "x", "\x00\x00\x04\x00", "\x00\x00\x04",
	} {
		for _, value := range []string{"", "x", file(2, 1).Value, entry(1, "a", 2, api.File).Value} {
			l := with(2, entry(1, "a", 2, api.File), file(2, 1))
			finds(t, fmt.Sprintf("%x with %x", key, value), append(l, raw(key, value)), "1 "+keyText(key))
		}
	}
}

func TestWrongValues(t *testing.T) {
	i, e := file(2, 1).Value, entry(1, "a", 2, api.File).Value
	far := raw("", long(257)).Value
	put := func(value string, at int, b byte) string {
		l := []byte(value)
		l[at] = b
		return string(l)
	}
	// The inode 3 is a File without a name, the entry a names it: if they said anything, more would be found.
	for _, value := range []string{"", "x", i[:12], i + "\x00", far, e, put(i, 0, 0), put(i, 0, 4), put(i, 0, 255), put(i, 2, 2), put(i, 7, 101), put(i, 8, 1), put(i, 10, 65), put(i, 12, 1)} {
		finds(t, fmt.Sprintf("an inode's %x", value), with(2, raw(node.InodeKey(3), value)), "1 i3")
	}
	for _, value := range []string{"", "x", e[:2], e + "\x00", far, i, put(e, 0, 0), put(put(e, 0, 1), 1, 16), put(e, 2, 0), put(e, 2, 4)} {
		finds(t, fmt.Sprintf("an entry's %x", value), with(2, raw(node.EntryKey(1, "a"), value)), "1 e1/a")
		finds(t, fmt.Sprintf("an entry's %x in none", value), with(2, raw(node.EntryKey(9, "a"), value)), "1 e9/a")
	}
	for _, size := range []int{0, 129, 256, 257, 100000} {
		finds(t, fmt.Sprintf("a block of %d bytes", size), with(2, raw(node.BlockKey(9, 0), long(size))), "1 b9.0")
	}
	for _, value := range []string{"x", "\x00", i, far} {
		finds(t, fmt.Sprintf("an orphan's %x", value), with(2, raw(node.OrphanKey(9), value)), "1 o9")
	}
}

// TestOfWrongOnes: what others are told beside a node that is wrong by itself.
func TestOfWrongOnes(t *testing.T) {
	spoilt := raw(node.InodeKey(2), "x")
	allFound(t, []found{
		{"an inode with a name", with(2, entry(1, "a", 2, api.File), spoilt), "3 e1/a, 1 i2"},
		{"a Dir with entries", with(3, entry(1, "a", 2, api.Dir), spoilt, entry(2, "b", 3, api.File), file(3, 1)), "3 e1/a, 1 i2, 2 e2/b"},
		{"an inode with blocks", with(2, spoilt, block(2, 0, 1)), "1 i2, 5 b2.0"},
		{"an inode with an orphan's node", with(2, orphan(2), spoilt), "10 o2, 1 i2"},
		{"an entry that would name", with(2, raw(node.EntryKey(1, "a"), entry(1, "a", 2, api.File).Value+"x"), file(2, 1)), "1 e1/a, 7 i2, 8 i2"},
		{"an entry of a Dir", with(3, raw(node.EntryKey(1, "a"), entry(1, "a", 2, api.Dir).Value+"x"), dir(2, 2)), "7 i1, 1 e1/a, 7 i2, 8 i2"},
		{"an orphan's node with bytes, of an inode that is there", with(2, raw(node.OrphanKey(2), "x"), file(2, 0)), "1 o2"},
		{"an orphan's node with bytes, of one with blocks", with(2, raw(node.OrphanKey(2), "x"), file(2, 0), block(2, 0, 1)), "1 o2"},
		{"the root", []api.Node{raw(node.InodeKey(1), "x")}, "1 i1, 11 i1"},
		{"the root with an entry", []api.Node{raw(node.InodeKey(1), "x"), entry(1, "a", 2, api.File), file(2, 1)}, "1 i1, 11 i1, 2 e1/a"},
	})
}

// 2, 3, 4: entries.

func TestEntries(t *testing.T) {
	allFound(t, []found{
		{"in none", with(2, entry(3, "a", 2, api.File), file(2, 1)), "2 e3/a"},
		{"in none, that is named", with(3, entry(1, "d", 3, api.Dir), entry(3, "a", 2, api.File), file(2, 1)), "3 e1/d, 2 e3/a"},
		{"in a File", with(2, entry(1, "f", 3, api.File), file(3, 1), entry(3, "a", 2, api.File), file(2, 1)), "2 e3/a"},
		{"in a Link", with(2, entry(1, "f", 3, api.Link), inode(3, api.Link, 1, 0), entry(3, "a", 2, api.File), file(2, 1)), "2 e3/a"},
		{"in a Dir that none names", with(2, orphan(3), dir(3, 0), entry(3, "a", 2, api.File), file(2, 1)), "2 e3/a"},
		{"in a Dir that none names, without an orphan's node", with(2, dir(3, 0), entry(3, "a", 2, api.File), file(2, 1)), "8 i3, 2 e3/a"},
		{"in a Dir that only itself names", with(2, dir(3, 3), entry(3, "a", 3, api.Dir)), "9 i3"},
		{"in a Dir that a stray one names", with(2, dir(3, 2), entry(3, "a", 2, api.File), entry(9, "d", 3, api.Dir), file(2, 1)), "2 e9/d"},
		{"two in none", with(2, entry(3, "a", 2, api.File), entry(3, "b", 2, api.File), file(2, 2)), "2 e3/a, 2 e3/b"},
		{"without a root", []api.Node{entry(1, "a", 2, api.File), file(2, 1)}, "11 i1, 2 e1/a"},
		{"in a root that is a File", []api.Node{file(1, 0), entry(1, "a", 2, api.File), file(2, 1)}, "11 i1, 2 e1/a"},

		{"to none", with(2, entry(1, "a", 9, api.File)), "3 e1/a"},
		{"to none, of two names", with(3, entry(1, "a", 9, api.Dir), entry(1, "b", 9, api.Link)), "3 e1/a, 3 e1/b"},
		{"to none, that has blocks and an orphan's node", with(2, orphan(9), entry(1, "a", 9, api.File), block(9, 0, 1)), "10 o9, 3 e1/a, 5 b9.0"},
		{"in none to none", with(2, entry(8, "a", 9, api.File)), "2 e8/a, 3 e8/a"},

		{"a File's that is a Dir's", with(3, entry(1, "a", 2, api.Dir), file(2, 1)), "4 e1/a"},
		{"a Link's that is a File's", with(2, entry(1, "a", 2, api.File), inode(2, api.Link, 1, 0)), "4 e1/a"},
		{"a File's that is a Link's", with(2, entry(1, "a", 2, api.Link), file(2, 1)), "4 e1/a"},
		{"a Dir's that is a File's", with(2, entry(1, "a", 2, api.File), dir(2, 2)), "4 e1/a"},
		{"one of two", with(2, entry(1, "a", 2, api.File), entry(1, "b", 2, api.Link), file(2, 2)), "4 e1/b"},
		{"in none, of another Kind", with(2, entry(8, "a", 2, api.Link), file(2, 1)), "2 e8/a, 4 e8/a"},
	})
}

// 5, 6: blocks.

func TestBlocks(t *testing.T) {
	one := func(i api.Node, l ...api.Node) []api.Node {
		parsed, _ := node.ParseInode(i)
		return append(with(2+parsed.Kind%api.Link/api.Dir, entry(1, "a", 2, parsed.Kind), i), l...)
	}
	of := func(size int) api.Node { return inode(2, api.File, 1, size) }
	allFound(t, []found{
		{"of none", with(2, block(9, 0, 1)), "5 b9.0"},
		{"of none, that has an orphan's node", with(2, orphan(9), block(9, 0, 1)), "10 o9, 5 b9.0"},
		{"of none, two", with(2, block(9, 0, 1), block(9, 127, 128)), "5 b9.0, 5 b9.127"},
		{"of a Dir", one(dir(2, 2), block(2, 0, 1)), "5 b2.0"},
		{"of a Dir with a Size", one(inode(2, api.Dir, 2, 128), block(2, 0, 1), block(2, 1, 1)), "5 b2.0, 5 b2.1"},
		{"of the root", with(2, block(1, 0, 128)), "5 b1.0"},
		{"of a File, just its Size", one(of(300), block(2, 0, 128), block(2, 1, 128), block(2, 2, 44)), ""},
		{"of a File, one beyond", one(of(300), block(2, 2, 45)), "6 b2.2"},
		{"of a File, a whole one", one(of(256), block(2, 1, 128)), ""},
		{"of a File, a whole one, one beyond", one(of(255), block(2, 1, 128)), "6 b2.1"},
		{"of a File, behind it", one(of(256), block(2, 2, 1)), "6 b2.2"},
		{"of a File, far behind it", one(of(1), block(2, 127, 1)), "6 b2.127"},
		{"of a File without bytes", one(of(0), block(2, 0, 1)), "6 b2.0"},
		{"of the greatest File", one(of(16384), block(2, 127, 128)), ""},
		{"of the greatest File less one", one(of(16383), block(2, 127, 128)), "6 b2.127"},
		{"of a Link, one beyond", one(inode(2, api.Link, 1, 4), block(2, 0, 5)), "6 b2.0"},
		{"of a Link", one(inode(2, api.Link, 1, 5), block(2, 0, 5)), ""},
		{"beyond, of an orphan with a name", one(of(1), orphan(2), block(2, 0, 2), block(2, 127, 128)), ""},
		{"beyond, of an orphan without one", with(2, orphan(2), file(2, 0), block(2, 0, 2)), ""},
		{"beyond, of another one than the orphan", one(of(1), orphan(3), file(3, 0), block(2, 0, 2)), "6 b2.0"},
		{"beyond, of one that none names", with(2, inode(2, api.File, 0, 1), block(2, 0, 2)), "8 i2, 6 b2.0"},
	})
}

// 7: Links.

func TestLinks(t *testing.T) {
	allFound(t, []found{
		{"a File, one less", with(2, entry(1, "a", 2, api.File), entry(1, "b", 2, api.File), file(2, 1)), "7 i2"},
		{"a File, one more", with(2, entry(1, "a", 2, api.File), file(2, 2)), "7 i2"},
		{"a File, none", with(2, entry(1, "a", 2, api.File), file(2, 0)), "7 i2"},
		{"a Link, one more", with(2, entry(1, "a", 2, api.Link), inode(2, api.Link, 2, 0)), "7 i2"},
		{"a Link, none", with(2, entry(1, "a", 2, api.Link), inode(2, api.Link, 0, 0)), "7 i2"},
		{"an orphan with Links", with(2, orphan(2), file(2, 1)), "7 i2"},
		{"an orphan with a name and no Links", with(2, orphan(2), entry(1, "a", 2, api.File), file(2, 0)), "7 i2"},
		{"a File that others' entries name", with(2, entry(9, "a", 2, api.Dir), entry(8, "a", 2, api.Link), file(2, 2)), "2 e8/a, 4 e8/a, 2 e9/a, 4 e9/a"},
		{"the root, one less", with(1), "7 i1"},
		{"the root, one more", with(3), "7 i1"},
		{"the root, none", with(0), "7 i1"},
		{"the root: Files do not count", with(3, entry(1, "a", 2, api.File), file(2, 1)), "7 i1"},
		{"the root: an entry's Kind counts", with(2, entry(1, "a", 2, api.File), dir(2, 2)), "4 e1/a"},
		{"the root: an entry's Kind counts, not its inode's", with(2, entry(1, "a", 2, api.Dir), file(2, 1)), "7 i1, 4 e1/a"},
		{"the root: a Dir that is not there counts", with(3, entry(1, "a", 2, api.Dir)), "3 e1/a"},
		{"a Dir, one less", with(3, entry(1, "d", 2, api.Dir), dir(2, 1)), "7 i2"},
		{"a Dir, one more", with(3, entry(1, "d", 2, api.Dir), dir(2, 3)), "7 i2"},
		{"a Dir, none", with(3, entry(1, "d", 2, api.Dir), dir(2, 0)), "7 i2"},
		{"a Dir below", with(3, entry(1, "d", 2, api.Dir), dir(2, 2), entry(2, "e", 3, api.Dir), dir(3, 2)), "7 i2"},
		{"a Dir that none names", with(2, orphan(2), dir(2, 2)), "7 i2"},
		{"a Dir that none names, with entries", with(2, orphan(2), dir(2, 3), entry(2, "e", 3, api.Dir), dir(3, 2)), "7 i2, 2 e2/e"},
		{"a Dir that none names, with entries, and no Links", with(2, orphan(2), dir(2, 0), entry(2, "e", 3, api.Dir), dir(3, 2)), "2 e2/e"},
		{"a Dir of two names, with Links", with(4, entry(1, "d", 2, api.Dir), entry(1, "e", 2, api.Dir), dir(2, 2)), "7 i2, 9 i2"},
		{"a Dir of two names, without", with(4, entry(1, "d", 2, api.Dir), entry(1, "e", 2, api.Dir), dir(2, 0)), "9 i2"},
		{"the root of two names, with Links", with(3, entry(1, "a", 1, api.File), entry(1, "b", 1, api.Dir)), "9 i1, 11 i1, 4 e1/a"},
	})
	// More entries than an inode can have Links.
	many, dirs := with(2, file(2, 100)), with(100)
	for i := range 100 {
		many = append(many, entry(1, fmt.Sprint(i), 2, api.File))
		dirs = append(dirs, entry(1, fmt.Sprint(i), 2+i, api.Dir), dir(2+i, 2))
	}
	finds(t, "a hundred", many, "")
	finds(t, "a hundred and one", append(many, entry(1, "x", 2, api.File)), "7 i2")
	finds(t, "a hundred Dirs", dirs, "7 i1")
}

// 8: inodes that are lost.

func TestLost(t *testing.T) {
	allFound(t, []found{
		{"a File", with(2, file(2, 0)), "8 i2"},
		{"a Link", with(2, inode(2, api.Link, 0, 0)), "8 i2"},
		{"a Dir", with(2, dir(2, 0)), "8 i2"},
		{"the greatest number", with(2, file(4096, 0)), "8 i4096"},
		{"beside another one's orphan's node", with(2, orphan(3), file(2, 0), file(3, 0)), "8 i2"},
		{"a File that a stray entry names", with(2, entry(9, "a", 2, api.File), file(2, 1)), "2 e9/a"},
		{"a Dir that names itself", with(2, dir(2, 3), entry(2, "a", 2, api.Dir)), "9 i2"},
		{"the root has no need of a name", []api.Node{dir(1, 2)}, ""},
		{"nor one that is a File", []api.Node{file(1, 0)}, "11 i1"},
	})
}

// 9: Dirs with two names, and rings.

func TestRings(t *testing.T) {
	allFound(t, []found{
		{"two names in one Dir", with(4, entry(1, "d", 2, api.Dir), entry(1, "e", 2, api.Dir), dir(2, 0)), "9 i2"},
		{"two names in two Dirs", with(4, entry(1, "d", 2, api.Dir), entry(1, "e", 3, api.Dir), entry(3, "d", 2, api.Dir), dir(2, 0), dir(3, 3)), "9 i2"},
		{"two names, one as a File", with(3, entry(1, "d", 2, api.Dir), entry(1, "e", 2, api.File), dir(2, 0)), "4 e1/e, 9 i2"},
		{"two names, one stray", with(3, entry(1, "d", 2, api.Dir), entry(9, "e", 2, api.Dir), dir(2, 0)), "9 i2, 2 e9/e"},
		{"itself", with(2, dir(2, 3), entry(2, "a", 2, api.Dir)), "9 i2"},
		{"itself, as a File", with(2, dir(2, 2), entry(2, "a", 2, api.File)), "9 i2, 4 e2/a"},
		{"each other", with(2, dir(2, 3), dir(3, 3), entry(2, "a", 3, api.Dir), entry(3, "a", 2, api.Dir)), "9 i2, 9 i3"},
		{"a ring of three", with(2, dir(2, 3), dir(3, 3), dir(4, 3), entry(2, "a", 4, api.Dir), entry(4, "a", 3, api.Dir), entry(3, "a", 2, api.Dir)), "9 i2, 9 i3, 9 i4"},
		{"a ring, and one below it", with(2, dir(2, 4), entry(2, "a", 2, api.Dir), entry(2, "b", 3, api.Dir), dir(3, 2)), "9 i2"},
		{"a ring, and one above it", with(3, entry(1, "d", 2, api.Dir), dir(2, 3), entry(2, "a", 3, api.Dir), dir(3, 0), entry(3, "a", 3, api.Dir)), "9 i3"},
		{"two rings, and one between", with(2, dir(2, 4), entry(2, "a", 2, api.Dir), entry(2, "b", 3, api.Dir), dir(3, 3), entry(3, "a", 4, api.Dir), dir(4, 0), entry(4, "a", 4, api.Dir)), "9 i2, 9 i4"},
		{"two rings with one in common", with(2, dir(2, 0), entry(2, "a", 3, api.Dir), entry(2, "b", 4, api.Dir), dir(3, 3), entry(3, "a", 2, api.Dir), dir(4, 3), entry(4, "a", 2, api.Dir)), "9 i2, 9 i3, 9 i4"},
		{"a ring over a number that is not there", with(2, dir(2, 3), entry(2, "a", 9, api.Dir), entry(9, "a", 2, api.Dir)), "9 i2, 3 e2/a, 2 e9/a"},
		{"a ring over a File", with(2, dir(2, 2), entry(2, "a", 3, api.File), file(3, 1), entry(3, "a", 2, api.Dir)), "9 i2, 2 e3/a"},
		{"a File's own", with(2, file(2, 1), entry(2, "a", 2, api.File)), "2 e2/a"},
		{"a ring over the root", with(3, entry(1, "d", 2, api.Dir), dir(2, 3), entry(2, "r", 1, api.Dir)), "9 i1, 11 i1, 9 i2"},
		{"the root's own", with(3, entry(1, "r", 1, api.Dir)), "9 i1, 11 i1"},
		{"the root of two names from without", with(2, entry(8, "r", 1, api.Dir), entry(9, "r", 1, api.Dir)), "9 i1, 11 i1, 2 e8/r, 2 e9/r"},
		{"side by side", with(3, entry(1, "d", 2, api.Dir), dir(2, 2), entry(1, "f", 3, api.File), entry(2, "f", 3, api.File), file(3, 2)), ""},
	})
}

// 10, 11: orphans' nodes, the root.

func TestOrphans(t *testing.T) {
	allFound(t, []found{
		{"of none", with(2, orphan(2)), "10 o2"},
		{"of none, the greatest number", with(2, orphan(4096)), "10 o4096"},
		{"of none, two", with(2, orphan(2), orphan(3)), "10 o2, 10 o3"},
		{"of none, that is named", with(2, orphan(2), entry(1, "a", 2, api.File)), "10 o2, 3 e1/a"},
		{"of the root", with(2, orphan(1)), ""},
		{"of the root, that is not there", []api.Node{orphan(1)}, "10 o1, 11 i1"},
	})
}

func TestRoot(t *testing.T) {
	allFound(t, []found{
		{"not there", []api.Node{orphan(2), file(2, 0)}, "11 i1"},
		{"not there: its place among the keys", []api.Node{raw("", ""), orphan(3), raw("\x00\x01", ""), raw("\x00\x01\x01\x00", ""), file(2, 0)}, "1 x, 10 o3, 1 x0001, 11 i1, 1 x00010100, 8 i2"},
		{"a File", []api.Node{file(1, 0)}, "11 i1"},
		{"a File with Links", []api.Node{file(1, 2)}, "7 i1, 11 i1"},
		{"a Link", []api.Node{inode(1, api.Link, 0, 3), block(1, 0, 3)}, "11 i1"},
		{"named by a Dir", with(2, entry(1, "a", 1, api.File)), "9 i1, 11 i1, 4 e1/a"},
		{"named from without", with(2, entry(9, "a", 1, api.Dir)), "11 i1, 2 e9/a"},
		{"not there, and named", []api.Node{entry(1, "a", 1, api.Dir)}, "11 i1, 2 e1/a, 3 e1/a"},
		{"a File, named", []api.Node{file(1, 1), entry(9, "a", 1, api.File)}, "11 i1, 2 e9/a"},
		{"all of one key", []api.Node{dir(1, 9), entry(1, "a", 1, api.Dir)}, "7 i1, 9 i1, 11 i1"},
	})
}

// Lists that are not as they should be.

func TestOtherLists(t *testing.T) {
	a, f := entry(1, "a", 2, api.File), file(2, 1)
	allFound(t, []found{
		{"not in order", []api.Node{f, a, dir(1, 2)}, ""},
		{"findings stand in order", []api.Node{file(3, 1), file(2, 1), dir(1, 3)}, "7 i1, 7 i2, 8 i2, 7 i3, 8 i3"},
		{"the last one counts", []api.Node{dir(1, 9), f, a, dir(1, 2)}, ""},
		{"the last one counts, a wrong one", []api.Node{dir(1, 2), f, a, dir(1, 9)}, "7 i1"},
		{"thrice", []api.Node{dir(1, 9), dir(1, 2), a, f, dir(1, 8), dir(1, 2)}, ""},
		{"Gone", []api.Node{dir(1, 2), gone(a.Key), gone(f.Key)}, ""},
		{"Gone behind", []api.Node{dir(1, 2), a, f, gone(a.Key), gone(f.Key)}, ""},
		{"Gone behind, one alone", []api.Node{dir(1, 2), a, f, gone(f.Key)}, "3 e1/a"},
		{"Gone ahead", []api.Node{gone(a.Key), dir(1, 2), gone(f.Key), a, f}, ""},
		{"Gone ahead, and behind", []api.Node{gone(a.Key), dir(1, 2), a, gone(a.Key), gone(f.Key), f, gone(f.Key)}, ""},
		{"Gone, the root", []api.Node{dir(1, 2), gone(dir(1, 2).Key)}, "11 i1"},
		{"Gone, a wrong key", []api.Node{dir(1, 2), gone("x"), gone("")}, ""},
		{"Gone with a value", []api.Node{dir(1, 2), {Key: f.Key, Value: f.Value, Gone: true}}, ""},
		{"a wrong one ahead", []api.Node{dir(1, 2), raw(a.Key, "x"), a, f}, ""},
		{"a wrong one behind", []api.Node{dir(1, 2), a, f, raw(a.Key, "x")}, "1 e1/a, 7 i2, 8 i2"},
		{"an entry to another one behind", []api.Node{dir(1, 2), a, entry(1, "a", 3, api.File), file(3, 1)}, ""},
	})
	// Longer ones, in which a sort that is not stable would mix up what stands under one key.
	var l []api.Node
	for i := range 500 {
		l = append(l, dir(1, i%99), file(2, i%98), a, gone(a.Key))
	}
	finds(t, "many times", append(l, a, dir(1, 2), f), "")
	finds(t, "many times, a wrong one", append(l, a, f, dir(1, 3)), "7 i1")
}
