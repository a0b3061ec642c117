package fscore

import (
	"fmt"
	"math"
	"testing"

	"pumice/api"
)

// The inodes of a furnished file system.
const (
	aFile  = 2   // a, b in the root
	aDir   = 3   // d in the root
	inner  = 4   // x in d
	hollow = 5   // e in d, an empty Dir
	aLink  = 6   // l in the root
	empty  = 7   // g in the root, an empty Dir
	lost   = 8   // a Dir that was removed
	loose  = 9   // a File without a name
	many   = 10  // m in the root: a File with MaxLinks names
	heap   = 11  // h in the root: the other names of many
	crowd  = 12  // w in the root: a Dir with MaxLinks
	absent = 300 // no inode
)

// furnished: on a greater chip, with what the errors need.
func furnished(t *testing.T) *Core {
	t.Helper()
	f := made(t, great)
	done := func(o op, want string) {
		t.Helper()
		is(t, o.String(), o.on(f), want)
	}
	done(op{call: "create", ino: 1, name: "a", i: file(420)}, "2 0")
	done(op{call: "link", ino: aFile, to: 1, name: "b"}, "- 0")
	done(op{call: "write", ino: aFile, text: text(300, 1)}, "300 0")
	done(op{call: "create", ino: 1, name: "d", i: folder()}, "3 0")
	done(op{call: "create", ino: aDir, name: "x", i: file(420)}, "4 0")
	done(op{call: "create", ino: aDir, name: "e", i: folder()}, "5 0")
	done(op{call: "create", ino: 1, name: "l", i: symlink(), text: "/d"}, "6 0")
	done(op{call: "create", ino: 1, name: "g", i: folder()}, "7 0")
	done(op{call: "create", ino: 1, name: "r", i: folder()}, "8 0")
	done(op{call: "rmdir", ino: 1, name: "r"}, "{8 true} 0")
	done(op{call: "create", ino: 1, name: "u", i: file(420)}, "9 0")
	done(op{call: "write", ino: loose, text: "abc"}, "3 0")
	done(op{call: "unlink", ino: 1, name: "u"}, "{9 true} 0")
	done(op{call: "create", ino: 1, name: "m", i: file(420)}, "10 0")
	done(op{call: "create", ino: 1, name: "h", i: folder()}, "11 0")
	for n := range api.MaxLinks - 1 {
		done(op{call: "link", ino: many, to: heap, name: fmt.Sprint(n)}, "- 0")
	}
	done(op{call: "create", ino: 1, name: "w", i: folder()}, "12 0")
	for n := range api.MaxLinks - 2 {
		done(op{call: "create", ino: crowd, name: fmt.Sprint(n), i: folder()}, fmt.Sprint(13+n, " 0"))
	}
	sound(t, "furnished", f.Cache())
	return f
}

// refusal: a call, and its error.
type refusal struct {
	o    op
	want api.Errno
}

// refused: each call says its error, tells nothing beside it, and changes nothing (P2002).
func refused(t *testing.T, f *Core, l []refusal) {
	t.Helper()
	was := listed(nodesOf(t, f.Cache()))
	waiting := f.Cache().Waiting()
	for _, r := range l {
		is(t, r.o.String(), r.o.on(f), told(r.o.zero(), r.want))
		is(t, r.o.String()+": Waiting", f.Cache().Waiting(), waiting)
	}
	is(t, "the map", listed(nodesOf(t, f.Cache())) == was, true)
}

// TestNoNumbers: what is no inode number is not there; what has the same lowest bits as one neither.
func TestNoNumbers(t *testing.T) {
	f := furnished(t)
	var l []refusal
	for _, ino := range []int{0, -1, absent, 4096, 4097, 1<<16 + 1, 1<<16 + aFile, 1<<32 + 1, math.MaxInt, math.MinInt, math.MinInt + 2} {
		l = append(l, []refusal{
			{op{call: "stat", ino: ino}, api.ENOENT},
			{op{call: "lookup", ino: ino, name: "a"}, api.ENOENT},
			{op{call: "readdir", ino: ino}, api.ENOENT},
			{op{call: "read", ino: ino, n: 1}, api.ENOENT},
			{op{call: "readlink", ino: ino}, api.ENOENT},
			{op{call: "create", ino: ino, name: "n", i: file(0)}, api.ENOENT},
			{op{call: "link", ino: ino, to: 1, name: "n"}, api.ENOENT},
			{op{call: "link", ino: aFile, to: ino, name: "n"}, api.ENOENT},
			{op{call: "unlink", ino: ino, name: "a"}, api.ENOENT},
			{op{call: "rmdir", ino: ino, name: "g"}, api.ENOENT},
			{op{call: "rename", ino: ino, name: "a", to: 1, other: "n"}, api.ENOENT},
			{op{call: "rename", ino: 1, name: "a", to: ino, other: "n"}, api.ENOENT},
			{op{call: "write", ino: ino, text: "x"}, api.ENOENT},
			{op{call: "truncate", ino: ino}, api.ENOENT},
			{op{call: "set", i: api.Inode{Ino: ino, Kind: api.File}}, api.ENOENT},
		}...)
		if ino < 1 || ino > api.MaxInodes {
			l = append(l, refusal{op{call: "purge", ino: ino}, api.EINVAL})
		}
	}
	refused(t, f, l)
}

// wrongNames: and what is said of each.
func wrongNames() map[string]api.Errno {
	return map[string]api.Errno{
		"": api.ENOENT, ".": api.EINVAL, "..": api.EINVAL, "/": api.EINVAL, "a/b": api.EINVAL, "\x00": api.EINVAL, "a\x00": api.EINVAL, text(25, 1): api.ENAMETOOLONG, text(1000, 1): api.ENAMETOOLONG,
	}
}

// TestWrongNames: behind the directory's errors, ahead of all others.
func TestWrongNames(t *testing.T) {
	f := furnished(t)
	var l []refusal
	for name, want := range wrongNames() {
		l = append(l, []refusal{
			{op{call: "lookup", ino: 1, name: name}, want},
			{op{call: "lookup", ino: aFile, name: name}, api.ENOTDIR},
			{op{call: "lookup", ino: lost, name: name}, want},
			{op{call: "create", ino: 1, name: name, i: api.Inode{Kind: 9}}, want},
			{op{call: "create", ino: aFile, name: name}, api.ENOTDIR},
			{op{call: "create", ino: lost, name: name}, api.ENOENT},
			{op{call: "link", ino: aFile, to: 1, name: name}, want},
			{op{call: "link", ino: many, to: 1, name: name}, want},
			{op{call: "link", ino: aFile, to: inner, name: name}, api.ENOTDIR},
			{op{call: "link", ino: aFile, to: lost, name: name}, api.ENOENT},
			{op{call: "unlink", ino: 1, name: name}, want},
			{op{call: "unlink", ino: aFile, name: name}, api.ENOTDIR},
			{op{call: "rmdir", ino: 1, name: name}, want},
			{op{call: "rmdir", ino: aLink, name: name}, api.ENOTDIR},
			{op{call: "rename", ino: aFile, name: name, to: absent, other: "n"}, api.ENOTDIR},
			{op{call: "rename", ino: 1, name: name, to: aFile, other: "n"}, want},
			{op{call: "rename", ino: 1, name: name, to: 1, other: "n"}, want},
			{op{call: "rename", ino: 1, name: "a", to: aFile, other: name}, api.ENOTDIR},
			{op{call: "rename", ino: 1, name: "a", to: lost, other: name}, api.ENOENT},
			{op{call: "rename", ino: 1, name: "n", to: 1, other: name}, want},
			{op{call: "rename", ino: 1, name: name, to: 1, other: name}, want},
		}...)
	}
	refused(t, f, l)
}

// TestLooksRefused: F20.1.
func TestLooksRefused(t *testing.T) {
	refused(t, furnished(t), []refusal{
		{op{call: "lookup", ino: 1, name: "n"}, api.ENOENT},
		{op{call: "lookup", ino: 1, name: "aa"}, api.ENOENT},
		{op{call: "lookup", ino: lost, name: "a"}, api.ENOENT},
		{op{call: "lookup", ino: inner, name: "a"}, api.ENOTDIR},
		{op{call: "lookup", ino: aLink, name: "a"}, api.ENOTDIR},
		{op{call: "readdir", ino: aFile}, api.ENOTDIR},
		{op{call: "readdir", ino: aLink}, api.ENOTDIR},
		{op{call: "read", ino: 1, n: 1}, api.EISDIR},
		{op{call: "read", ino: 1, at: -1, n: 1}, api.EISDIR},
		{op{call: "read", ino: aDir, n: -1}, api.EISDIR},
		{op{call: "read", ino: lost, n: 1}, api.EISDIR},
		{op{call: "read", ino: aLink, n: 1}, api.EINVAL},
		{op{call: "read", ino: aFile, at: -1, n: 1}, api.EINVAL},
		{op{call: "read", ino: aFile, at: 1, n: -1}, api.EINVAL},
		{op{call: "read", ino: aFile, at: 301, n: -1}, api.EINVAL},
		{op{call: "read", ino: aFile, at: math.MinInt, n: math.MinInt}, api.EINVAL},
		{op{call: "readlink", ino: aFile}, api.EINVAL},
		{op{call: "readlink", ino: 1}, api.EINVAL},
	})
}

// TestCreateRefused: F20.2, each error, and which comes first.
func TestCreateRefused(t *testing.T) {
	f := furnished(t)
	create := func(dir int, name string, i api.Inode, text string) op {
		return op{call: "create", ino: dir, name: name, i: i, text: text}
	}
	l := []refusal{
		{op{call: "make"}, api.EEXIST},
		{create(aFile, "n", file(0), ""), api.ENOTDIR},
		{create(aLink, "n", file(0), ""), api.ENOTDIR},
		{create(lost, "n", file(0), ""), api.ENOENT},
		{create(1, "a", file(0), ""), api.EEXIST},
		{create(1, "d", folder(), ""), api.EEXIST},
		{create(1, "a", api.Inode{Kind: 7, Mode: -1}, "x"), api.EEXIST},
		{create(crowd, "0", folder(), ""), api.EEXIST},
		{create(1, "n", symlink(), ""), api.ENOENT},
		{create(1, "n", symlink(), text(256, 1)), api.ENAMETOOLONG},
		{create(1, "n", symlink(), text(99999, 1)), api.ENAMETOOLONG},
		{create(1, "n", file(0), "x"), api.EINVAL},
		{create(1, "n", folder(), "x"), api.EINVAL},
		{create(1, "n", file(0), text(256, 1)), api.EINVAL},
		{create(crowd, "n", folder(), "x"), api.EINVAL},
		{create(crowd, "n", symlink(), ""), api.ENOENT},
		{create(crowd, "n", folder(), ""), api.EMLINK},
	}
	for _, i := range []api.Inode{
		{}, {Kind: -1}, {Kind: 4}, {Kind: 257}, {Kind: math.MinInt}, {Kind: api.File, Mode: -1}, {Kind: api.File, Mode: 512}, {Kind: api.Dir, Mode: math.MaxInt}, {Kind: api.Link, Mode: 65536},
		{Kind: api.File, Uid: -1}, {Kind: api.File, Uid: 65536}, {Kind: api.Dir, Gid: -1}, {Kind: api.Dir, Gid: 65536}, {Kind: api.Link, Uid: math.MinInt}, {Kind: api.Link, Gid: math.MaxInt},
	} {
		for _, text := range []string{"", "x", text(256, 1)} {
			l = append(l, refusal{create(1, "n", i, text), api.EINVAL}, refusal{create(crowd, "n", i, text), api.EINVAL})
		}
	}
	refused(t, f, l)
}

// TestLinkRefused: F20.3.
func TestLinkRefused(t *testing.T) {
	link := func(ino, dir int, name string) op { return op{call: "link", ino: ino, to: dir, name: name} }
	refused(t, furnished(t), []refusal{
		{link(1, aFile, "n"), api.EPERM},
		{link(aDir, 1, "n"), api.EPERM},
		{link(lost, absent, "."), api.EPERM},
		{link(loose, 1, "n"), api.ENOENT},
		{link(loose, aFile, "."), api.ENOENT},
		{link(aFile, inner, "n"), api.ENOTDIR},
		{link(many, inner, "n"), api.ENOTDIR},
		{link(aFile, lost, "n"), api.ENOENT},
		{link(aFile, 1, "a"), api.EEXIST},
		{link(aFile, 1, "d"), api.EEXIST},
		{link(many, 1, "m"), api.EEXIST},
		{link(many, 1, "n"), api.EMLINK},
	})
}

// TestTakingRefused: F20.4.
func TestTakingRefused(t *testing.T) {
	refused(t, furnished(t), []refusal{
		{op{call: "unlink", ino: 1, name: "n"}, api.ENOENT},
		{op{call: "unlink", ino: lost, name: "n"}, api.ENOENT},
		{op{call: "unlink", ino: aFile, name: "n"}, api.ENOTDIR},
		{op{call: "unlink", ino: 1, name: "d"}, api.EISDIR},
		{op{call: "unlink", ino: 1, name: "g"}, api.EISDIR},
		{op{call: "rmdir", ino: 1, name: "n"}, api.ENOENT},
		{op{call: "rmdir", ino: aLink, name: "n"}, api.ENOTDIR},
		{op{call: "rmdir", ino: 1, name: "a"}, api.ENOTDIR},
		{op{call: "rmdir", ino: 1, name: "l"}, api.ENOTDIR},
		{op{call: "rmdir", ino: 1, name: "d"}, api.ENOTEMPTY},
		{op{call: "rmdir", ino: 1, name: "h"}, api.ENOTEMPTY},
	})
}

// TestRenameRefused: F20.5.
func TestRenameRefused(t *testing.T) {
	f := furnished(t)
	_, errno := f.Create(crowd, "file", file(0), "")
	is(t, "Create of a File in a crowd", errno, api.OK)
	rename := func(dir int, name string, to int, other string) op {
		return op{call: "rename", ino: dir, name: name, to: to, other: other}
	}
	refused(t, f, []refusal{
		{rename(aFile, "a", 1, "n"), api.ENOTDIR},
		{rename(1, "a", aLink, "n"), api.ENOTDIR},
		{rename(1, "n", lost, "n"), api.ENOENT},
		{rename(1, "a", lost, "n"), api.ENOENT},
		{rename(lost, "a", 1, "n"), api.ENOENT},
		{rename(1, "n", 1, "a"), api.ENOENT},
		{rename(1, "n", 1, "n"), api.ENOENT},
		{rename(1, "n", aDir, "x"), api.ENOENT},
		{rename(1, "d", aDir, "n"), api.EINVAL},
		{rename(1, "d", hollow, "n"), api.EINVAL},
		{rename(1, "d", aDir, "x"), api.EINVAL},
		{rename(1, "d", aDir, "e"), api.EINVAL},
		{rename(1, "w", crowd, "n"), api.EINVAL},
		{rename(1, "w", 13, "n"), api.EINVAL},
		{rename(1, "d", 1, "a"), api.ENOTDIR},
		{rename(1, "d", 1, "l"), api.ENOTDIR},
		{rename(1, "g", aDir, "x"), api.ENOTDIR},
		{rename(1, "g", crowd, "file"), api.ENOTDIR},
		{rename(1, "a", 1, "d"), api.EISDIR},
		{rename(1, "a", 1, "g"), api.EISDIR},
		{rename(1, "l", aDir, "e"), api.EISDIR},
		{rename(aDir, "x", 1, "d"), api.EISDIR},
		{rename(1, "g", 1, "d"), api.ENOTEMPTY},
		{rename(aDir, "e", 1, "d"), api.ENOTEMPTY},
		{rename(1, "g", 1, "h"), api.ENOTEMPTY},
		{rename(1, "g", crowd, "n"), api.EMLINK},
		{rename(1, "d", crowd, "n"), api.EMLINK},
	})
}

// TestBytesRefused: F20.6.
func TestBytesRefused(t *testing.T) {
	write := func(ino, at, n int) op { return op{call: "write", ino: ino, at: at, text: text(n, 1)} }
	truncate := func(ino, n int) op { return op{call: "truncate", ino: ino, n: n} }
	refused(t, furnished(t), []refusal{
		{write(1, 0, 1), api.EISDIR},
		{write(aDir, -1, 513), api.EISDIR},
		{write(lost, 0, 0), api.EISDIR},
		{write(aLink, 0, 1), api.EINVAL},
		{write(aLink, 16384, 1), api.EINVAL},
		{write(aLink, 0, 0), api.EINVAL},
		{write(aFile, -1, 1), api.EINVAL},
		{write(aFile, -1, 0), api.EINVAL},
		{write(aFile, math.MinInt, 512), api.EINVAL},
		{write(aFile, 0, 513), api.EINVAL},
		{write(aFile, 16384, 513), api.EINVAL},
		{write(aFile, 0, 100000), api.EINVAL},
		{write(aFile, 16384, 1), api.EFBIG},
		{write(aFile, 16385, 0), api.EFBIG},
		{write(aFile, 15873, 512), api.EFBIG},
		{write(aFile, math.MaxInt, 512), api.EFBIG},
		{write(aFile, math.MaxInt, 0), api.EFBIG},
		{write(loose, 16380, 5), api.EFBIG},
		{truncate(1, 0), api.EISDIR},
		{truncate(aDir, -1), api.EISDIR},
		{truncate(aLink, 0), api.EINVAL},
		{truncate(aLink, 16385), api.EINVAL},
		{truncate(aFile, -1), api.EINVAL},
		{truncate(aFile, math.MinInt), api.EINVAL},
		{truncate(aFile, 16385), api.EFBIG},
		{truncate(aFile, math.MaxInt), api.EFBIG},
	})
}

// TestSetRefused: F20.7: what is wrong in the argument comes first.
func TestSetRefused(t *testing.T) {
	var l []refusal
	for _, i := range []api.Inode{{Mode: -1}, {Mode: 512}, {Uid: -1}, {Uid: 65536}, {Gid: -1}, {Gid: 65536}, {Mode: math.MaxInt}, {Uid: math.MinInt}, {Gid: math.MaxInt}} {
		for _, ino := range []int{aFile, 1, absent, 0, -1} {
			i.Ino = ino
			l = append(l, refusal{op{call: "set", i: i}, api.EINVAL})
		}
	}
	refused(t, furnished(t), l)
}

// TestNothingToDo: what is OK and is no group.
func TestNothingToDo(t *testing.T) {
	f := furnished(t)
	f.Purge(lost)
	f.Purge(loose)
	var l []refusal
	for _, o := range []op{
		{call: "rename", ino: 1, name: "a", to: 1, other: "a"}, {call: "rename", ino: 1, name: "a", to: 1, other: "b"}, {call: "rename", ino: 1, name: "d", to: 1, other: "d"},
		{call: "rename", ino: heap, name: "0", to: 1, other: "m"}, {call: "rename", ino: crowd, name: "5", to: crowd, other: "5"},
		{call: "write", ino: aFile}, {call: "write", ino: aFile, at: 16384}, {call: "write", ino: aFile, at: 5000},
		{call: "truncate", ino: aFile, n: 300}, {call: "truncate", ino: inner},
		{call: "set", i: api.Inode{Ino: aFile, Mode: 420, Kind: 9, Links: -1, Size: -1}}, {call: "set", i: api.Inode{Ino: 1, Mode: 493}},
		{call: "purge", ino: aFile}, {call: "purge", ino: 1}, {call: "purge", ino: lost}, {call: "purge", ino: 4096}, {call: "recover"},
	} {
		l = append(l, refusal{o, api.OK})
	}
	refused(t, f, l)
}
