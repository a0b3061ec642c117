package fscore

import (
	"fmt"
	"strings"
	"testing"

	"pumice/api"
	"pumice/node"
	"pumice/space"
)

// withBlocks: a File a, number 2, with so many blocks of a byte, from the block first on, that has that many Links and, perhaps, an orphan's node. All of it is flushed.
func withBlocks(t *testing.T, first, blocks, links, size int, orphan bool) *Core {
	t.Helper()
	f := made(t, great)
	var l []api.Node
	add := func(n api.Node, errno api.Errno) {
		is(t, "a node", errno, api.OK)
		l = append(l, n)
	}
	add(node.Inode(api.Inode{Ino: 2, Kind: api.File, Links: links, Size: size}))
	if links > 0 {
		add(node.Entry(1, api.Entry{Name: "a", Ino: 2, Kind: api.File}))
	}
	if orphan {
		add(node.Orphan(2))
	}
	for n := range blocks {
		add(node.Block(2, first+n, []byte("x")))
	}
	for ; len(l) > 0; l = l[min(16, len(l)):] {
		is(t, "Put", f.Cache().Put(l[:min(16, len(l))]), api.OK)
	}
	is(t, "Sync", f.Cache().Sync(), api.OK)
	return f
}

// groups: what the groups that wait take out, and put: each as a line; behind each of them the store's map is sound.
func groups(t *testing.T, f *Core) []string {
	t.Helper()
	x := f.Cache()
	var lines []string
	was := nodesOf(t, x.Store())
	for x.Waiting() > 0 {
		more, errno := x.Flush()
		is(t, "Flush", told(more, errno), "true 0")
		now := nodesOf(t, x.Store())
		lines = append(lines, changed(was, now))
		sound(t, fmt.Sprint("behind group ", len(lines)), x.Store())
		was = now
	}
	return lines
}

// changed: the keys that went, with how many blocks, and from which on; the keys that came or have another value.
func changed(was, now []api.Node) string {
	values := map[string]string{}
	for _, n := range now {
		values[n.Key] = n.Value
	}
	var l []string
	out, first, next := 0, "", -1
	for _, n := range was {
		value, ok := values[n.Key]
		delete(values, n.Key)
		kind, _, _, block := node.Kind(n.Key)
		switch {
		case !ok && kind == ofBlock:
			out++
			if next < 0 {
				first = fmt.Sprint(" from ", block)
			} else if block != next {
				first += " with a gap"
			}
			next = block + 1
		case !ok:
			l = append(l, "-"+keyText(n.Key))
		case value != n.Value:
			l = append(l, "="+keyText(n.Key))
		}
	}
	for _, n := range now {
		if _, ok := values[n.Key]; ok {
			l = append(l, "+"+keyText(n.Key))
		}
	}
	if out > 0 {
		l = append(l, fmt.Sprint(out, first))
	}
	return strings.Join(l, " ")
}

func told2(lines []string) string { return strings.Join(lines, "; ") }

// TestTruncateGroups: F20.6: how blocks are parted into groups.
func TestTruncateGroups(t *testing.T) {
	for _, c := range []struct {
		blocks, size int
		want         string
	}{
		{0, 0, "=i2"},
		{1, 0, "=i2 1 from 0"},
		{13, 0, "=i2 13 from 0"},
		{14, 0, "=i2 +o2 13 from 0; -o2 1 from 13"},
		{14, 128, "=i2 13 from 1"},
		{14, 1, "=i2 13 from 1"},
		{15, 128, "=i2 +o2 13 from 1; -o2 1 from 14"},
		{15, 127, "=i2 +o2 13 from 1; -o2 1 from 14"},
		{15, 129, "=i2 13 from 2"},
		{26, 0, "=i2 +o2 13 from 0; -o2 13 from 13"},
		{27, 0, "=i2 +o2 13 from 0; 14 from 13; -o2"},
		{28, 0, "=i2 +o2 13 from 0; 14 from 13; -o2 1 from 27"},
		{40, 0, "=i2 +o2 13 from 0; 14 from 13; -o2 13 from 27"},
		{41, 0, "=i2 +o2 13 from 0; 14 from 13; 14 from 27; -o2"},
		{128, 16256, "=i2 1 from 127"},
		{128, 16257, "=i2"},
		{128, 14592, "=i2 +o2 13 from 114; -o2 1 from 127"},
		{128, 14593, "=i2 13 from 115"},
		{128, 0, "=i2 +o2 13 from 0; 14 from 13; 14 from 27; 14 from 41; 14 from 55; 14 from 69; 14 from 83; 14 from 97; 14 from 111; -o2 3 from 125"},
	} {
		f := withBlocks(t, 0, c.blocks, 1, 16384, false)
		is(t, "Truncate", f.Truncate(2, c.size), api.OK)
		is(t, fmt.Sprint("Truncate of ", c.blocks, " blocks to ", c.size), told2(groups(t, f)), c.want)
	}
}

// TestTruncateCut: the block that is cut goes with the first group; blocks far behind are taken out, too.
func TestTruncateCut(t *testing.T) {
	for blocks, want := range map[int]string{5: "=i2 =b2.9", 17: "=i2 =b2.9 12 from 10", 18: "=i2 =b2.9 13 from 10", 19: "=i2 =b2.9 +o2 13 from 10; -o2 1 from 23", 33: "=i2 =b2.9 +o2 13 from 10; 14 from 23; -o2 1 from 37"} {
		f := withBlocks(t, 5, blocks, 1, 16384, false)
		f.Write(2, 9*128, []byte("abc"))
		f.Cache().Sync()
		is(t, "Truncate", f.Truncate(2, 9*128+2), api.OK)
		is(t, fmt.Sprint("Truncate of ", blocks), told2(groups(t, f)), want)
		value, ok, _ := f.Cache().Get(node.BlockKey(2, 9))
		is(t, "the block", told(value, api.OK)+fmt.Sprint(ok), "ab 0true")
	}
	// One that is shorter stays as it is.
	f := withBlocks(t, 9, 3, 1, 16384, false)
	is(t, "Truncate", f.Truncate(2, 9*128+1), api.OK)
	is(t, "Truncate behind the bytes of a block", told2(groups(t, f)), "=i2 2 from 10")
}

// TestTruncateNameless: an inode without Links stays an orphan: the inode itself is to be taken out yet.
func TestTruncateNameless(t *testing.T) {
	for blocks, want := range map[int]string{
		13: "=i2 13 from 0", 14: "=i2 13 from 0; 1 from 13", 26: "=i2 13 from 0; 13 from 13", 27: "=i2 13 from 0; 14 from 13", 28: "=i2 13 from 0; 14 from 13; 1 from 27", 41: "=i2 13 from 0; 14 from 13; 14 from 27",
	} {
		f := withBlocks(t, 0, blocks, 0, 16384, true)
		is(t, "Truncate", f.Truncate(2, 0), api.OK)
		is(t, fmt.Sprint("Truncate of ", blocks), told2(groups(t, f)), want)
		is(t, "orphans", op{call: "orphans"}.on(f), "[2] 0")
		is(t, "Purge", f.Purge(2), api.OK)
		is(t, "purged", keys(t, f.Cache()), "i1")
	}
}

// TestPurgeGroups: F20.7: of an inode without Links, of one whose Truncate was cut off, of none.
func TestPurgeGroups(t *testing.T) {
	for _, c := range []struct {
		blocks, links, size int
		want                string
	}{
		{0, 0, 16384, "-o2 -i2"},
		{12, 0, 16384, "-o2 -i2 12 from 3"},
		{13, 0, 16384, "13 from 3; -o2 -i2"},
		{14, 0, 16384, "14 from 3; -o2 -i2"},
		{15, 0, 16384, "14 from 3; -o2 -i2 1 from 17"},
		{26, 0, 16384, "14 from 3; -o2 -i2 12 from 17"},
		{27, 0, 16384, "14 from 3; 13 from 17; -o2 -i2"},
		{28, 0, 0, "14 from 3; 14 from 17; -o2 -i2"},
		{0, 1, 16384, "-o2"},
		{5, 1, 16384, "-o2"},
		{13, 1, 384, "-o2 13 from 3"},
		{13, 1, 383, "-o2 13 from 3"},
		{13, 1, 385, "-o2 12 from 4"},
		{14, 1, 0, "14 from 3; -o2"},
		{14, 1, 512, "-o2 13 from 4"},
		{14, 1, 511, "-o2 13 from 4"},
		{27, 1, 1, "14 from 3; -o2 13 from 17"},
		{28, 1, 1, "14 from 3; 14 from 17; -o2"},
		{125, 1, 1, "14 from 3; 14 from 17; 14 from 31; 14 from 45; 14 from 59; 14 from 73; 14 from 87; 14 from 101; -o2 13 from 115"},
	} {
		for _, call := range []string{"purge", "recover"} {
			f := withBlocks(t, 3, c.blocks, c.links, c.size, true)
			is(t, call, op{call: call, ino: 2}.on(f), "- 0")
			is(t, fmt.Sprint(call, " of ", c), told2(groups(t, f)), c.want)
		}
	}
	f := made(t, small)
	orphan, _ := node.Orphan(7)
	f.Cache().Put([]api.Node{orphan})
	is(t, "Purge of none", f.Purge(7), api.OK)
	is(t, "Purge of none", f.Cache().Waiting(), 3)
	is(t, "the map", keys(t, f.Cache()), "i1")
}

// TestRecoverAll: of all orphans, in order; each of them in groups of its own.
func TestRecoverAll(t *testing.T) {
	f := made(t, middle)
	for n := range 5 {
		f.Create(1, fmt.Sprint(n), file(0), "")
		f.Write(2+n, 0, []byte("x"))
	}
	for _, n := range []int{3, 0, 4} {
		f.Unlink(1, fmt.Sprint(n))
	}
	f.Cache().Sync()
	is(t, "Recover", f.Recover(), api.OK)
	is(t, "Recover", told2(groups(t, f)), "-o2 -i2 1 from 0; -o5 -i5 1 from 0; -o6 -i6 1 from 0")
}

// TestOneGroup: each other call is one.
func TestOneGroup(t *testing.T) {
	f := made(t, middle)
	f.Cache().Sync()
	for _, c := range []struct {
		o    op
		want string
	}{
		{op{call: "create", ino: 1, name: "a", i: file(0)}, "+e1/a +i2"},
		{op{call: "create", ino: 1, name: "d", i: folder()}, "=i1 +e1/d +i3"},
		{op{call: "create", ino: 3, name: "l", i: symlink(), text: text(200, 1)}, "+e3/l +i4 +b4.0 +b4.1"},
		{op{call: "link", ino: 2, to: 3, name: "b"}, "=i2 +e3/b"},
		{op{call: "write", ino: 2, at: 100, text: text(512, 1)}, "=i2 +b2.0 +b2.1 +b2.2 +b2.3 +b2.4"},
		{op{call: "write", ino: 2, at: 127, text: "ab"}, "=b2.0 =b2.1"},
		{op{call: "truncate", ino: 2, n: 700}, "=i2"},
		{op{call: "set", i: api.Inode{Ino: 2, Uid: 1}}, "=i2"},
		{op{call: "create", ino: 1, name: "e", i: folder()}, "=i1 +e1/e +i5"},
		{op{call: "rename", ino: 1, name: "e", to: 3, other: "e"}, "=i1 -e1/e =i3 +e3/e"},
		{op{call: "create", ino: 1, name: "f", i: folder()}, "=i1 +e1/f +i6"},
		{op{call: "rename", ino: 1, name: "f", to: 3, other: "e"}, "=i1 -e1/f =e3/e =i5 +o5"},
		{op{call: "create", ino: 1, name: "g", i: file(0)}, "+e1/g +i7"},
		{op{call: "rename", ino: 1, name: "g", to: 3, other: "l"}, "-e1/g =e3/l =i4 +o4"},
		{op{call: "rename", ino: 3, name: "l", to: 3, other: "b"}, "=i2 =e3/b -e3/l"},
		{op{call: "unlink", ino: 3, name: "b"}, "-e3/b =i7 +o7"},
		{op{call: "rmdir", ino: 3, name: "e"}, "=i3 -e3/e =i6 +o6"},
	} {
		waiting := f.Cache().Waiting()
		c.o.on(f)
		is(t, c.o.String()+": Waiting", f.Cache().Waiting()-waiting, 1)
		is(t, c.o.String(), told2(groups(t, f)), c.want)
	}
}

// filled: a chip at its limit, to the byte: Files with short names and long ones, Dirs, a symlink, blocks of all sizes.
func filled(t *testing.T, g api.Geometry) *Core {
	t.Helper()
	f := made(t, g)
	name := func(n int) string { return []string{fmt.Sprint(n), text(24, n)}[n%2] }
	for n, size := range []int{0, 1, 130, 300, 0, 0, 40} {
		i := []api.Inode{file(0), file(1), file(2), file(3), folder(), folder(), symlink()}[n]
		said := ""
		if i.Kind == api.Link {
			said = text(size, 1)
		}
		ino, errno := f.Create(1, name(n), i, said)
		is(t, "Create", errno, api.OK)
		if i.Kind == api.File {
			f.Write(ino, 0, []byte(text(size, 1)))
		}
	}
	big, _ := f.Create(1, "big", file(0), "")
	for at, size := 0, 512; size > 0 && at < api.MaxFile-512; {
		if n, _ := f.Write(big, at, []byte(text(size, at))); n > 0 {
			at += n
		} else {
			size /= 2
		}
	}
	// Byte by byte, in a block that has room.
	for at := 131; f.Cache().Cost() < f.Cache().Limit() && at < 256; at++ {
		n, errno := f.Write(4, at, []byte("x"))
		is(t, "Write of a byte", told(n, errno), "1 0")
	}
	is(t, "Cost", f.Cache().Cost(), f.Cache().Limit())
	return f
}

// TestFull: at the limit what costs more says ENOSPC, and changes nothing; what costs as much is done.
func TestFull(t *testing.T) {
	for _, g := range []api.Geometry{small, bare} {
		f := filled(t, g)
		refused(t, f, []refusal{
			{op{call: "create", ino: 1, name: "n", i: file(0)}, api.ENOSPC},
			{op{call: "create", ino: 1, name: "n", i: folder()}, api.ENOSPC},
			{op{call: "create", ino: 1, name: "n", i: symlink(), text: "x"}, api.ENOSPC},
			{op{call: "link", ino: 2, to: 1, name: "n"}, api.ENOSPC},
			{op{call: "write", ino: 2, text: "x"}, api.ENOSPC},
			{op{call: "rename", ino: 1, name: "0", to: 1, other: "00"}, api.ENOSPC},
			{op{call: "rename", ino: 1, name: "2", to: 6, other: "22"}, api.ENOSPC},
		})
		for _, a := range []answered{
			{op{call: "set", i: api.Inode{Ino: 2, Mode: 511}}, "- 0"},
			{op{call: "truncate", ino: 2, n: 16384}, "- 0"},
			{op{call: "write", ino: 5, text: text(300, 7)}, "300 0"},
			{op{call: "rename", ino: 1, name: "0", to: 6, other: "n"}, "{0 false} 0"},
			{op{call: "rename", ino: 6, name: "n", to: 1, other: "0"}, "{0 false} 0"},
			{op{call: "rename", ino: 1, name: "0", to: 1, other: "2"}, "{4 true} 0"},
		} {
			is(t, a.o.String(), a.o.on(f), a.want)
		}
		sound(t, "full", f.Cache())
	}
}

// TestNeverFull: P2004: at the limit taking out has room, and makes some.
func TestNeverFull(t *testing.T) {
	for _, g := range []api.Geometry{small, bare} {
		for _, o := range []op{
			{call: "unlink", ino: 1, name: "0"}, {call: "unlink", ino: 1, name: text(24, 1)}, {call: "unlink", ino: 1, name: "2"}, {call: "unlink", ino: 1, name: text(24, 3)}, {call: "unlink", ino: 1, name: "6"},
			{call: "rmdir", ino: 1, name: "4"}, {call: "rmdir", ino: 1, name: text(24, 5)},
			{call: "truncate", ino: 4, n: 130}, {call: "truncate", ino: 4, n: 128}, {call: "truncate", ino: 4, n: 1}, {call: "truncate", ino: 4}, {call: "truncate", ino: 9, n: 128}, {call: "truncate", ino: 9, n: 129},
		} {
			f := filled(t, g)
			if i, _ := f.Stat(o.ino); o.call == "truncate" && i.Size <= o.n {
				continue
			}
			answer := o.on(f)
			is(t, o.String(), answer[strings.LastIndex(answer, " "):], " 0")
			is(t, o.String()+": room", f.Cache().Cost() < f.Cache().Limit(), true)
			is(t, o.String()+": Recover", f.Recover(), api.OK)
			sound(t, o.String(), f.Cache())
			is(t, o.String()+": Cost", f.Cache().Cost(), space.Nodes(nodesOf(t, f.Cache())))
		}
	}
}

// TestNeverFullOfBlocks: likewise where many groups are needed.
func TestNeverFullOfBlocks(t *testing.T) {
	f := made(t, middle)
	for _, name := range []string{"a", "b"} {
		ino, _ := f.Create(1, name, file(0), "")
		for at := 0; at < api.MaxFile; at += api.Unit {
			n, errno := f.Write(ino, at, []byte("x"))
			is(t, "Write", told(n, errno), "1 0")
		}
	}
	full := func(ino int) {
		for n := 0; n < 127*128 && f.Cache().Cost() < f.Cache().Limit(); n++ {
			f.Write(ino, n%128*128+1+n/128, []byte("y"))
		}
		is(t, "Cost", f.Cache().Cost(), f.Cache().Limit())
	}
	full(2)
	is(t, "Truncate", f.Truncate(2, 9), api.OK)
	full(3)
	g, errno := f.Unlink(1, "b")
	is(t, "Unlink", told(g, errno), "{3 true} 0")
	full(3)
	is(t, "Purge", f.Purge(3), api.OK)
	is(t, "the map", keys(t, f.Cache()), "i1 e1/a i2 b2.0")
}
