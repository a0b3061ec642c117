package fscore

import (
	"fmt"
	"math"
	"strings"
	"testing"

	"pumice/api"
	"pumice/node"
)

// answered: a call, and what it answers.
type answered struct {
	o    op
	want string
}

func answers(t *testing.T, f *Core, l []answered) {
	t.Helper()
	for _, a := range l {
		is(t, a.o.String(), a.o.on(f), a.want)
		sound(t, a.o.String(), f.Cache())
	}
}

func stat(ino int) op { return op{call: "stat", ino: ino} }

// TestCreate: F20.2: what a new inode has; of what is handed in only four fields count.
func TestCreate(t *testing.T) {
	f := made(t, small)
	answers(t, f, []answered{
		{op{call: "create", ino: 1, name: "f", i: api.Inode{Ino: 9, Kind: api.File, Mode: 511, Uid: 65535, Gid: 65534, Links: 55, Size: 66}}, "2 0"},
		{stat(2), "{2 1 511 65535 65534 1 0} 0"},
		{op{call: "create", ino: 1, name: "d", i: api.Inode{Ino: -9, Kind: api.Dir, Links: -1, Size: -1}}, "3 0"},
		{stat(3), "{3 2 0 0 0 2 0} 0"},
		{stat(1), "{1 2 493 0 0 3 0} 0"},
		{op{call: "create", ino: 3, name: text(24, 1), i: api.Inode{Kind: api.Link, Mode: 7, Uid: 8, Gid: 9, Size: 1 << 40}, text: "/f"}, "4 0"},
		{stat(4), "{4 3 7 8 9 1 2} 0"},
		{stat(3), "{3 2 0 0 0 2 0} 0"},
		{op{call: "readlink", ino: 4}, "/f 0"},
		{op{call: "readdir", ino: 1}, "[{d 3 2} {f 2 1}] 0"},
		{op{call: "readdir", ino: 3}, fmt.Sprintf("[{%s 4 3}] 0", text(24, 1))},
		{op{call: "lookup", ino: 3, name: text(24, 1)}, fmt.Sprintf("{%s 4 3} 0", text(24, 1))},
		{op{call: "lookup", ino: 1, name: "d"}, "{d 3 2} 0"},
	})
	is(t, "the map", keys(t, f.Cache()), "i1 e1/d e1/f i2 i3 e3/"+text(24, 1)+" i4 b4.0")
}

// TestSymlinks: of all sizes, with any bytes.
func TestSymlinks(t *testing.T) {
	f := made(t, middle)
	for n, s := range []string{"x", "\x00", "/", text(127, 1), text(128, 1), text(129, 1), text(255, 1), strings.Repeat("\xff\x00", 127)} {
		ino, errno := f.Create(1, fmt.Sprint(n), symlink(), s)
		is(t, "Create", told(ino, errno), fmt.Sprint(n+2, " 0"))
		got, errno := f.Readlink(ino)
		is(t, "Readlink", told(got, errno), s+" 0")
		i, _ := f.Stat(ino)
		is(t, "Size", i.Size, len(s))
		first, _, _ := f.Cache().Get(node.BlockKey(ino, 0))
		second, ok, _ := f.Cache().Get(node.BlockKey(ino, 1))
		is(t, "blocks", first+second, s)
		is(t, "a second block", ok, len(s) > 128)
	}
	sound(t, "symlinks", f.Cache())
}

// TestReaddir: in the order of names, by bytes.
func TestReaddir(t *testing.T) {
	f := made(t, middle)
	for _, name := range []string{"b", "\xff", "a", "A", "aa", "a.b", " ", "\x01", "...", ".a", "é", "10", "9"} {
		_, errno := f.Create(1, name, file(0), "")
		is(t, "Create", errno, api.OK)
	}
	l, _ := f.Readdir(1)
	got := ""
	for _, e := range l {
		got += e.Name + "|"
	}
	is(t, "Readdir", got, "\x01| |...|.a|10|9|A|a|a.b|aa|b|é|\xff|")
}

// TestNumbers: the least one that is free; an orphan's is not.
func TestNumbers(t *testing.T) {
	f := made(t, middle)
	create := func(name string, i api.Inode, want string) answered {
		return answered{op{call: "create", ino: 1, name: name, i: i}, want}
	}
	answers(t, f, []answered{
		create("a", file(0), "2 0"), create("b", folder(), "3 0"), create("c", file(0), "4 0"), create("d", file(0), "5 0"),
		{op{call: "unlink", ino: 1, name: "c"}, "{4 true} 0"},
		{op{call: "rmdir", ino: 1, name: "b"}, "{3 true} 0"},
		create("e", file(0), "6 0"),
		{op{call: "purge", ino: 4}, "- 0"},
		create("f", folder(), "4 0"), create("g", file(0), "7 0"),
		{op{call: "recover"}, "- 0"},
		create("h", file(0), "3 0"), create("i", file(0), "8 0"),
	})
	// An orphan's node alone holds its number; an inode that is not clean, too.
	orphan, _ := node.Orphan(9)
	is(t, "Put", f.Cache().Put([]api.Node{orphan, {Key: node.InodeKey(10), Value: "x"}, {Key: node.OrphanKey(11), Value: "x"}}), api.OK)
	ino, errno := f.Create(1, "j", file(0), "")
	is(t, "Create", told(ino, errno), "12 0")
}

// TestAllNumbers: ENOSPC, if none is left.
func TestAllNumbers(t *testing.T) {
	f := made(t, great)
	var g []api.Node
	for ino := 2; ino <= api.MaxInodes; ino++ {
		n, _ := node.Orphan(ino)
		if ino%2 == 0 {
			n, _ = node.Inode(api.Inode{Ino: ino, Kind: api.File})
		}
		g = append(g, n)
		if len(g) == 15 {
			is(t, "Put", f.Cache().Put(g), api.OK)
			g = nil
		}
	}
	is(t, "the last ones", len(g) < 15, true)
	f.Cache().Put(g)
	for range 2 {
		ino, errno := f.Create(1, "a", file(0), "")
		is(t, "Create", told(ino, errno), told(0, api.ENOSPC))
	}
	for _, n := range []int{4096, 4095, 1000, 2} {
		key := node.InodeKey(n)
		if n%2 == 1 {
			key = node.OrphanKey(n)
		}
		is(t, "Put", f.Cache().Put([]api.Node{{Key: key, Gone: true}}), api.OK)
		ino, errno := f.Create(1, fmt.Sprint(n), file(0), "")
		is(t, "Create", told(ino, errno), fmt.Sprint(n, " 0"))
	}
	_, errno := f.Create(1, "z", file(0), "")
	is(t, "Create", errno, api.ENOSPC)
}

// TestGreatestNumber: the inode MaxInodes is one like others.
func TestGreatestNumber(t *testing.T) {
	f := made(t, middle)
	const last = api.MaxInodes
	top, _ := node.Inode(api.Inode{Ino: 1, Kind: api.Dir, Mode: 493, Links: 4})
	name, _ := node.Entry(1, api.Entry{Name: "z", Ino: last, Kind: api.Dir})
	other, _ := node.Entry(1, api.Entry{Name: "y", Ino: last - 1, Kind: api.Dir})
	dir, _ := node.Inode(api.Inode{Ino: last, Kind: api.Dir, Links: 2})
	before, _ := node.Inode(api.Inode{Ino: last - 1, Kind: api.Dir, Links: 2})
	is(t, "Put", f.Cache().Put([]api.Node{top, name, other, dir, before}), api.OK)
	answers(t, f, []answered{
		{stat(last), "{4096 2 0 0 0 2 0} 0"},
		{stat(last + 1), "{0 0 0 0 0 0 0} 2"},
		{op{call: "rename", ino: 1, name: "z", to: last, other: "x"}, "{0 false} 22"},
		{op{call: "rename", ino: 1, name: "y", to: last, other: "y"}, "{0 false} 0"},
		{op{call: "rename", ino: 1, name: "z", to: last - 1, other: "x"}, "{0 false} 22"},
		{op{call: "create", ino: last, name: "a", i: file(0)}, "2 0"},
		{op{call: "rename", ino: last, name: "y", to: 1, other: "y"}, "{0 false} 0"},
		{op{call: "rename", ino: 1, name: "z", to: last - 1, other: "x"}, "{0 false} 0"},
		{op{call: "unlink", ino: last, name: "a"}, "{2 true} 0"},
		{op{call: "rmdir", ino: last - 1, name: "x"}, "{4096 true} 0"},
		{op{call: "purge", ino: last}, "- 0"},
		{op{call: "purge", ino: last + 1}, "- 22"},
		{op{call: "orphans"}, "[2] 0"},
		{stat(last), "{0 0 0 0 0 0 0} 2"},
	})
}

// TestLinks: MaxLinks of a Dir and of a File, and what makes room for one.
func TestLinks(t *testing.T) {
	f := furnished(t)
	answers(t, f, []answered{
		{stat(many), "{10 1 420 0 0 100 0} 0"},
		{stat(crowd), "{12 2 493 0 0 100 0} 0"},
		{op{call: "unlink", ino: heap, name: "50"}, "{10 false} 0"},
		{op{call: "link", ino: many, to: crowd, name: "n"}, "- 0"},
		{op{call: "link", ino: many, to: 1, name: "n"}, "- 31"},
		{op{call: "rename", ino: 1, name: "l", to: crowd, other: "l"}, "{0 false} 0"},
		{op{call: "rename", ino: 1, name: "g", to: crowd, other: "30"}, "{43 true} 0"},
		{stat(crowd), "{12 2 493 0 0 100 0} 0"},
		{stat(1), "{1 2 493 0 0 5 0} 0"},
		{op{call: "rename", ino: crowd, name: "31", to: crowd, other: "moved"}, "{0 false} 0"},
		{op{call: "rename", ino: crowd, name: "32", to: crowd, other: "moved"}, "{44 true} 0"},
		{stat(crowd), "{12 2 493 0 0 99 0} 0"},
		{op{call: "rename", ino: crowd, name: "33", to: aDir, other: "e"}, "{5 true} 0"},
		{stat(crowd), "{12 2 493 0 0 98 0} 0"},
		{stat(aDir), "{3 2 493 0 0 3 0} 0"},
		{op{call: "rename", ino: aDir, name: "e", to: crowd, other: "e"}, "{0 false} 0"},
		{stat(aDir), "{3 2 493 0 0 2 0} 0"},
		{op{call: "rmdir", ino: crowd, name: "e"}, "{46 true} 0"},
		{stat(46), "{46 2 493 0 0 0 0} 0"},
		{op{call: "create", ino: crowd, name: "x", i: folder()}, "111 0"},
		{op{call: "create", ino: crowd, name: "y", i: folder()}, "112 0"},
		{op{call: "create", ino: crowd, name: "z", i: folder()}, "0 31"},
		{op{call: "orphans"}, "[5 8 9 43 44 46] 0"},
	})
}

// TestNames: F20.3 to F20.5: a File's names come and go; with the last one it is an orphan, and can still be read and written.
func TestNames(t *testing.T) {
	f := made(t, middle)
	answers(t, f, []answered{
		{op{call: "create", ino: 1, name: "a", i: file(1)}, "2 0"},
		{op{call: "create", ino: 1, name: "d", i: folder()}, "3 0"},
		{op{call: "link", ino: 2, to: 3, name: "b"}, "- 0"},
		{op{call: "link", ino: 2, to: 3, name: "c"}, "- 0"},
		{op{call: "create", ino: 3, name: "l", i: symlink(), text: "b"}, "4 0"},
		{op{call: "link", ino: 4, to: 1, name: "l"}, "- 0"},
		{stat(2), "{2 1 1 0 0 3 0} 0"},
		{stat(4), "{4 3 511 0 0 2 1} 0"},
		{op{call: "readdir", ino: 3}, "[{b 2 1} {c 2 1} {l 4 3}] 0"},
		{op{call: "unlink", ino: 1, name: "a"}, "{2 false} 0"},
		{op{call: "unlink", ino: 3, name: "l"}, "{4 false} 0"},
		{op{call: "unlink", ino: 1, name: "l"}, "{4 true} 0"},
		{op{call: "readlink", ino: 4}, "b 0"},
		{op{call: "rename", ino: 3, name: "b", to: 1, other: "n"}, "{0 false} 0"},
		{op{call: "create", ino: 1, name: "o", i: file(2)}, "5 0"},
		{op{call: "rename", ino: 1, name: "n", to: 1, other: "o"}, "{5 true} 0"},
		{op{call: "create", ino: 1, name: "p", i: file(3)}, "6 0"},
		{op{call: "rename", ino: 1, name: "p", to: 3, other: "c"}, "{2 false} 0"},
		{op{call: "rename", ino: 3, name: "c", to: 1, other: "o"}, "{2 true} 0"},
		{op{call: "readdir", ino: 1}, "[{d 3 2} {o 6 1}] 0"},
		{op{call: "readdir", ino: 3}, "[] 0"},
		{op{call: "orphans"}, "[2 4 5] 0"},
		{op{call: "write", ino: 2, at: 3, text: "abc"}, "3 0"},
		{op{call: "truncate", ino: 2, n: 5}, "- 0"},
		{op{call: "set", i: api.Inode{Ino: 2, Mode: 9, Uid: 8, Gid: 7}}, "- 0"},
		{op{call: "read", ino: 2, n: 9}, "\x00\x00\x00ab 0"},
		{stat(2), "{2 1 9 8 7 0 5} 0"},
		{op{call: "purge", ino: 2}, "- 0"},
		{op{call: "orphans"}, "[4 5] 0"},
		{stat(2), "{0 0 0 0 0 0 0} 2"},
		{op{call: "recover"}, "- 0"},
		{op{call: "orphans"}, "[] 0"},
	})
	is(t, "the map", keys(t, f.Cache()), "i1 e1/d e1/o i3 i6")
}

// TestRename: F20.5: Dirs move, up and down and aside; the Links of those above tell it.
func TestRename(t *testing.T) {
	f := made(t, middle)
	answers(t, f, []answered{
		{op{call: "create", ino: 1, name: "a", i: folder()}, "2 0"},
		{op{call: "create", ino: 1, name: "b", i: folder()}, "3 0"},
		{op{call: "create", ino: 2, name: "c", i: folder()}, "4 0"},
		{op{call: "create", ino: 4, name: "f", i: file(0)}, "5 0"},
		{op{call: "create", ino: 4, name: "e", i: folder()}, "6 0"},
		{op{call: "rename", ino: 1, name: "a", to: 6, other: "x"}, "{0 false} 22"},
		{op{call: "rename", ino: 2, name: "c", to: 6, other: "x"}, "{0 false} 22"},
		{op{call: "rename", ino: 4, name: "e", to: 2, other: "c"}, "{0 false} 39"},
		{op{call: "rename", ino: 2, name: "c", to: 1, other: "b"}, "{3 true} 0"},
		{stat(1), "{1 2 493 0 0 4 0} 0"},
		{stat(2), "{2 2 493 0 0 2 0} 0"},
		{op{call: "rename", ino: 4, name: "e", to: 2, other: "e"}, "{0 false} 0"},
		{stat(4), "{4 2 493 0 0 2 0} 0"},
		{stat(2), "{2 2 493 0 0 3 0} 0"},
		{op{call: "rename", ino: 1, name: "b", to: 6, other: "b"}, "{0 false} 0"},
		{stat(1), "{1 2 493 0 0 3 0} 0"},
		{stat(6), "{6 2 493 0 0 3 0} 0"},
		{op{call: "rename", ino: 2, name: "e", to: 2, other: "g"}, "{0 false} 0"},
		{stat(2), "{2 2 493 0 0 3 0} 0"},
		{op{call: "rename", ino: 4, name: "f", to: 1, other: "f"}, "{0 false} 0"},
		{stat(1), "{1 2 493 0 0 3 0} 0"},
		{op{call: "create", ino: 2, name: "h", i: folder()}, "7 0"},
		{op{call: "rename", ino: 2, name: "g", to: 2, other: "h"}, "{7 true} 0"},
		{stat(2), "{2 2 493 0 0 3 0} 0"},
		{stat(7), "{7 2 493 0 0 0 0} 0"},
		{op{call: "rename", ino: 1, name: "f", to: 4, other: "z"}, "{0 false} 0"},
		{op{call: "readdir", ino: 4}, "[{z 5 1}] 0"},
	})
	is(t, "the map", keys(t, f.Cache()), "o3 o7 i1 e1/a i2 e2/h i3 i4 e4/z i5 i6 e6/b i7")
}

// TestSet: just these three.
func TestSet(t *testing.T) {
	f := furnished(t)
	answers(t, f, []answered{
		{op{call: "set", i: api.Inode{Ino: aFile, Kind: api.Dir, Mode: 511, Uid: 65535, Gid: 1, Links: 50, Size: 7}}, "- 0"},
		{stat(aFile), "{2 1 511 65535 1 2 300} 0"},
		{op{call: "set", i: api.Inode{Ino: aFile, Mode: 511, Uid: 65535, Gid: 65535}}, "- 0"},
		{stat(aFile), "{2 1 511 65535 65535 2 300} 0"},
		{op{call: "set", i: api.Inode{Ino: aFile, Mode: 511, Uid: 3, Gid: 65535}}, "- 0"},
		{op{call: "set", i: api.Inode{Ino: aFile, Mode: 0, Uid: 3, Gid: 65535}}, "- 0"},
		{stat(aFile), "{2 1 0 3 65535 2 300} 0"},
		{op{call: "set", i: api.Inode{Ino: 1}}, "- 0"},
		{stat(1), "{1 2 0 0 0 6 0} 0"},
		{op{call: "set", i: api.Inode{Ino: aLink, Mode: 1, Uid: 2, Gid: 3}}, "- 0"},
		{stat(aLink), "{6 3 1 2 3 1 2} 0"},
		{op{call: "set", i: api.Inode{Ino: lost, Uid: 9}}, "- 0"},
		{stat(lost), "{8 2 0 9 0 0 0} 0"},
	})
}

// TestRead: each place of a file with holes and short blocks.
func TestRead(t *testing.T) {
	f := made(t, middle)
	f.Create(1, "a", file(0), "")
	want := make([]byte, 700)
	for _, w := range []struct{ at, n int }{{10, 5}, {120, 20}, {600, 100}, {384, 1}, {127, 1}} {
		data := []byte(text(w.n, w.at))
		n, errno := f.Write(2, w.at, data)
		is(t, "Write", told(n, errno), told(w.n, api.OK))
		copy(want[w.at:], data)
	}
	is(t, "the map", keys(t, f.Cache()), "i1 e1/a i2 b2.0 b2.1 b2.3 b2.4 b2.5")
	for at := range 705 {
		for _, n := range []int{0, 1, 2, 127, 128, 129, 300, 699, 700, 701, math.MaxInt} {
			b, errno := f.Read(2, at, n)
			from := min(at, 700)
			if s := want[from : from+min(n, 700-from)]; string(b) != string(s) || errno != api.OK {
				t.Fatalf("Read at %d of %d: %q %v, not %q", at, n, b, errno, s)
			}
		}
	}
	b, errno := f.Read(2, math.MaxInt, math.MaxInt)
	is(t, "Read far behind", told(len(b), errno), "0 0")
}

// values: of the blocks of an inode, by their numbers.
func values(t *testing.T, f *Core, ino int) string {
	t.Helper()
	l := []string{}
	for _, n := range nodesOf(t, f.Cache()) {
		if kind, i, _, block := node.Kind(n.Key); kind == ofBlock && i == ino {
			l = append(l, fmt.Sprintf("%d:%q", block, n.Value))
		}
	}
	return strings.Join(l, " ")
}

// TestWriteBlocks: P2003: what stands in the blocks behind each Write.
func TestWriteBlocks(t *testing.T) {
	f := made(t, middle)
	f.Create(1, "a", file(0), "")
	for _, c := range []struct {
		at         int
		text, want string
		size       int
	}{
		{2, "ab", `0:"\x00\x00ab"`, 4},
		{0, "x", `0:"x\x00ab"`, 4},
		{3, "yz", `0:"x\x00ayz"`, 5},
		{129, "q", `0:"x\x00ayz" 1:"\x00q"`, 130},
		{6, "w", `0:"x\x00ayz\x00w" 1:"\x00q"`, 130},
		{5, "v", `0:"x\x00ayzvw" 1:"\x00q"`, 130},
		{384, "e", `0:"x\x00ayzvw" 1:"\x00q" 3:"e"`, 385},
		{130, "r", `0:"x\x00ayzvw" 1:"\x00qr" 3:"e"`, 385},
		{16383, "z", fmt.Sprintf(`0:"x\x00ayzvw" 1:"\x00qr" 3:"e" 127:%q`, strings.Repeat("\x00", 127)+"z"), 16384},
	} {
		n, errno := f.Write(2, c.at, []byte(c.text))
		is(t, "Write", told(n, errno), told(len(c.text), api.OK))
		is(t, fmt.Sprint("Write at ", c.at), values(t, f, 2), c.want)
		i, _ := f.Stat(2)
		is(t, fmt.Sprint("Write at ", c.at, ": Size"), i.Size, c.size)
	}
	n, errno := f.Write(2, 100, []byte(text(512, 1)))
	is(t, "Write over five blocks", told(n, errno), "512 0")
	is(t, "the map", keys(t, f.Cache()), "i1 e1/a i2 b2.0 b2.1 b2.2 b2.3 b2.4 b2.127")
	n, errno = f.Write(2, 15872, []byte(text(512, 1)))
	is(t, "Write to the end", told(n, errno), "512 0")
	b, _ := f.Read(2, 15872, 600)
	is(t, "Read to the end", string(b), text(512, 1))
	sound(t, "written", f.Cache())
}

// TestTruncateBlocks: what stands in the blocks behind each Truncate; what was cut off never comes back.
func TestTruncateBlocks(t *testing.T) {
	f := made(t, middle)
	f.Create(1, "a", file(0), "")
	f.Write(2, 126, []byte("abcdef"))
	f.Write(2, 256, []byte("gh"))
	zeros := strings.Repeat(`\x00`, 126)
	for _, c := range []struct {
		size int
		want string
	}{
		{258, `0:"` + zeros + `ab" 1:"cdef" 2:"gh"`},
		{257, `0:"` + zeros + `ab" 1:"cdef" 2:"g"`},
		{300, `0:"` + zeros + `ab" 1:"cdef" 2:"g"`},
		{16384, `0:"` + zeros + `ab" 1:"cdef" 2:"g"`},
		{1000, `0:"` + zeros + `ab" 1:"cdef" 2:"g"`},
		{256, `0:"` + zeros + `ab" 1:"cdef"`},
		{255, `0:"` + zeros + `ab" 1:"cdef"`},
		{132, `0:"` + zeros + `ab" 1:"cdef"`},
		{131, `0:"` + zeros + `ab" 1:"cde"`},
		{129, `0:"` + zeros + `ab" 1:"c"`},
		{128, `0:"` + zeros + `ab"`},
		{127, `0:"` + zeros + `a"`},
		{200, `0:"` + zeros + `a"`},
		{1, `0:"\x00"`},
		{0, ``},
		{5, ``},
	} {
		was, _ := f.Read(2, 0, 20000)
		is(t, fmt.Sprint("Truncate to ", c.size), f.Truncate(2, c.size), api.OK)
		is(t, fmt.Sprint("Truncate to ", c.size), values(t, f, 2), c.want)
		i, _ := f.Stat(2)
		is(t, "Size", i.Size, c.size)
		b, _ := f.Read(2, 0, 20000)
		is(t, fmt.Sprint("Truncate to ", c.size, ": Read"), string(b), (string(was) + strings.Repeat("\x00", 16384))[:c.size])
		sound(t, "truncated", f.Cache())
	}
}
