package fscore

import (
	"fmt"
	"slices"
	"strings"
	"testing"

	"pumice/api"
	"pumice/audit"
	"pumice/cache"
	"pumice/nand"
	"pumice/node"
	"pumice/store"
)

func is[T comparable](t *testing.T, what string, got, want T) {
	t.Helper()
	if got != want {
		t.Errorf("%s: %v, not %v", what, got, want)
	}
}

// The chips: the one of the whole's examples; the one with the fewest logical blocks, of the fewest bytes; one without a reserve; greater ones.
var (
	small  = api.Geometry{Blocks: 16, Pages: 16, Page: 128, Reserve: 2}
	least  = api.Geometry{Blocks: 16, Pages: 8, Page: 256, Reserve: 4}
	bare   = api.Geometry{Blocks: 16, Pages: 8, Page: 256, Reserve: 0}
	middle = api.Geometry{Blocks: 40, Pages: 16, Page: 256, Reserve: 6}
	great  = api.Geometry{Blocks: 128, Pages: 64, Page: 512, Reserve: 8}
)

// everything: more nodes than any chip has.
const everything = 1 << 40

// blank: over an empty store of such a chip: without a root.
func blank(t *testing.T, g api.Geometry) *Core {
	t.Helper()
	c, errno := nand.New(g, nil)
	is(t, "New", errno, api.OK)
	s, errno := store.Format(c)
	is(t, "Format", errno, api.OK)
	return New(cache.New(s))
}

// made: with a root.
func made(t *testing.T, g api.Geometry) *Core {
	t.Helper()
	f := blank(t, g)
	is(t, "Make", f.Make(), api.OK)
	return f
}

// mounted: over what stands on the chip.
func mounted(t *testing.T, c *nand.Chip) *Core {
	t.Helper()
	s, errno := store.Mount(c)
	if errno != api.OK {
		t.Fatalf("Mount: %v", errno)
	}
	return New(cache.New(s))
}

func chipOf(f *Core) *nand.Chip { return f.Cache().Store().Chip() }

func arm(t *testing.T, c *nand.Chip, plan ...api.Fault) {
	t.Helper()
	is(t, "Arm", c.Arm(plan), api.OK)
}

// mapped: what has a Range: a cache, or a store.
type mapped interface {
	Range(from, to string, most int) ([]api.Node, api.Errno)
}

func nodesOf(t *testing.T, x mapped) []api.Node {
	t.Helper()
	l, errno := x.Range("", "", everything)
	is(t, "Range", errno, api.OK)
	return l
}

// keyText: i2 of an inode, e1/a of an entry, b2.0 of a block, o2 of an orphan.
func keyText(key string) string {
	kind, ino, name, block := node.Kind(key)
	switch kind {
	case 1:
		return fmt.Sprintf("i%d", ino)
	case ofEntry:
		return fmt.Sprintf("e%d/%s", ino, name)
	case ofBlock:
		return fmt.Sprintf("b%d.%d", ino, block)
	case ofOrphan:
		return fmt.Sprintf("o%d", ino)
	}
	return fmt.Sprintf("x%x", key)
}

// keys: of all that stands there.
func keys(t *testing.T, x mapped) string {
	t.Helper()
	var l []string
	for _, n := range nodesOf(t, x) {
		l = append(l, keyText(n.Key))
	}
	return strings.Join(l, " ")
}

// listed: nodes as a text.
func listed(l []api.Node) string {
	var b strings.Builder
	for _, n := range l {
		fmt.Fprintf(&b, "%s %x, ", keyText(n.Key), n.Value)
	}
	return b.String()
}

// sound: all that is wrong in what stands there.
func sound(t *testing.T, what string, x mapped) {
	t.Helper()
	for _, f := range audit.Check(nodesOf(t, x)) {
		t.Errorf("%s: %d at %s", what, f.Kind, keyText(f.Key))
	}
}

// text: of so many bytes, another one for each number.
func text(size, number int) string {
	word := fmt.Sprint(number, ".")
	return strings.Repeat(word, size/len(word)+1)[:size]
}

func file(mode int) api.Inode { return api.Inode{Kind: api.File, Mode: mode} }
func folder() api.Inode       { return api.Inode{Kind: api.Dir, Mode: 0755} }
func symlink() api.Inode      { return api.Inode{Kind: api.Link, Mode: 0777} }

// op: a call. It is told as a text; so is what it answers.
type op struct {
	call        string
	ino, to     int
	name, other string
	i           api.Inode
	at, n       int
	text        string
}

func (o op) String() string {
	s := fmt.Sprint(o.call, " ", o.ino)
	switch o.call {
	case "lookup", "unlink", "rmdir":
		s += fmt.Sprintf(" %.30q", o.name)
	case "create":
		s += fmt.Sprintf(" %.30q kind %d mode %d of %d, %d, text of %d", o.name, o.i.Kind, o.i.Mode, o.i.Uid, o.i.Gid, len(o.text))
	case "link":
		s += fmt.Sprintf(" in %d %.30q", o.to, o.name)
	case "rename":
		s += fmt.Sprintf(" %.30q to %d %.30q", o.name, o.to, o.other)
	case "read":
		s += fmt.Sprint(" at ", o.at, " ", o.n)
	case "write":
		s += fmt.Sprint(" at ", o.at, " of ", len(o.text))
	case "truncate":
		s += fmt.Sprint(" to ", o.n)
	case "set":
		s += fmt.Sprint(" ", o.i)
	}
	return s
}

// told: an answer as a text.
func told(value any, errno api.Errno) string { return fmt.Sprintf("%v %d", value, int(errno)) }

const nothing = "-" // what calls tell that have nothing to tell

// on: what the call answers.
func (o op) on(f *Core) string {
	switch o.call {
	case "stat":
		i, errno := f.Stat(o.ino)
		return told(i, errno)
	case "lookup":
		e, errno := f.Lookup(o.ino, o.name)
		return told(e, errno)
	case "readdir":
		l, errno := f.Readdir(o.ino)
		return told(l, errno)
	case "read":
		b, errno := f.Read(o.ino, o.at, o.n)
		return told(string(b), errno)
	case "readlink":
		s, errno := f.Readlink(o.ino)
		return told(s, errno)
	case "orphans":
		l, errno := f.Orphans()
		return told(l, errno)
	}
	return o.change(f)
}

// change: likewise, of the calls that change something.
func (o op) change(f *Core) string {
	switch o.call {
	case "make":
		return told(nothing, f.Make())
	case "create":
		n, errno := f.Create(o.ino, o.name, o.i, o.text)
		return told(n, errno)
	case "link":
		return told(nothing, f.Link(o.ino, o.to, o.name))
	case "unlink":
		g, errno := f.Unlink(o.ino, o.name)
		return told(g, errno)
	case "rmdir":
		g, errno := f.Rmdir(o.ino, o.name)
		return told(g, errno)
	case "rename":
		g, errno := f.Rename(o.ino, o.name, o.to, o.other)
		return told(g, errno)
	case "write":
		n, errno := f.Write(o.ino, o.at, []byte(o.text))
		return told(n, errno)
	case "truncate":
		return told(nothing, f.Truncate(o.ino, o.n))
	case "set":
		return told(nothing, f.Set(o.i))
	case "purge":
		return told(nothing, f.Purge(o.ino))
	case "recover":
		return told(nothing, f.Recover())
	}
	panic("no call " + o.call)
}

// zero: what a call tells beside an error.
func (o op) zero() any {
	switch o.call {
	case "stat":
		return api.Inode{}
	case "lookup":
		return api.Entry{}
	case "readdir", "orphans":
		return []int{}
	case "read", "readlink":
		return ""
	case "create", "write":
		return 0
	case "unlink", "rmdir", "rename":
		return Gone{}
	}
	return nothing
}

// each: one call of each.
func each() []op {
	return []op{
		{call: "stat", ino: 1}, {call: "lookup", ino: 1, name: "a"}, {call: "readdir", ino: 1}, {call: "read", ino: 2, n: 9}, {call: "readlink", ino: 3}, {call: "orphans"},
		{call: "make"}, {call: "create", ino: 1, name: "n", i: file(0)}, {call: "link", ino: 2, to: 1, name: "n"}, {call: "unlink", ino: 1, name: "a"}, {call: "rmdir", ino: 1, name: "d"},
		{call: "rename", ino: 1, name: "a", to: 1, other: "n"}, {call: "write", ino: 2, text: "x"}, {call: "truncate", ino: 2, n: 1}, {call: "set", i: api.Inode{Ino: 2, Mode: 1}}, {call: "purge", ino: 2}, {call: "recover"},
	}
}

// TestExamples: the chapter's.
func TestExamples(t *testing.T) {
	f := made(t, small)
	for _, c := range []struct {
		o    op
		want string
	}{
		{op{call: "create", ino: 1, name: "a", i: file(420)}, "2 0"},
		{op{call: "write", ino: 2, at: 130, text: "xy"}, "2 0"},
		{op{call: "stat", ino: 2}, "{2 1 420 0 0 1 132} 0"},
		{op{call: "read", ino: 2, at: 128, n: 9}, "\x00\x00xy 0"},
	} {
		is(t, c.o.String(), c.o.on(f), c.want)
	}
	is(t, "written", keys(t, f.Cache()), "i1 e1/a i2 b2.1")
	is(t, "Truncate", f.Truncate(2, 131), api.OK)
	value, _, _ := f.Cache().Get(node.BlockKey(2, 1))
	is(t, "the block 1", value, "\x00\x00x")
	for _, c := range []struct {
		o    op
		want string
	}{
		{op{call: "unlink", ino: 1, name: "a"}, "{2 true} 0"},
		{op{call: "stat", ino: 2}, "{2 1 420 0 0 0 131} 0"},
		{op{call: "orphans"}, "[2] 0"},
		{op{call: "purge", ino: 2}, "- 0"},
		{op{call: "stat", ino: 2}, "{0 0 0 0 0 0 0} 2"},
		{op{call: "create", ino: 1, name: "d", i: folder()}, "2 0"},
		{op{call: "create", ino: 2, name: "e", i: folder()}, "3 0"},
		{op{call: "rename", ino: 1, name: "d", to: 3, other: "x"}, "{0 false} 22"},
		{op{call: "stat", ino: 2}, "{2 2 493 0 0 3 0} 0"},
	} {
		is(t, c.o.String(), c.o.on(f), c.want)
	}
	sound(t, "at the end", f.Cache())
}

// TestNil: a nil core, one of a nil cache, one of a cache of no store: EFAULT, whatever is asked.
func TestNil(t *testing.T) {
	var none *Core
	is(t, "Cache of nil", none.Cache(), nil)
	is(t, "Cache of a nil one", New(nil).Cache(), nil)
	for i, f := range []*Core{none, New(nil), New(cache.New(nil))} {
		for _, o := range each() {
			is(t, fmt.Sprint(o, " of ", i), o.on(f), told(o.zero(), api.EFAULT))
		}
	}
	for _, f := range []*Core{none, New(nil)} {
		for _, o := range []op{{call: "set", i: api.Inode{Mode: -1}}, {call: "purge", ino: -1}, {call: "stat", ino: 0}} {
			is(t, o.String(), o.on(f), told(o.zero(), api.EFAULT))
		}
	}
}

// TestNew: the cache is that one; two cores over one cache have one file system.
func TestNew(t *testing.T) {
	f := made(t, small)
	is(t, "Cache", New(f.Cache()).Cache(), f.Cache())
	other := New(f.Cache())
	is(t, "Make", other.Make(), api.EEXIST)
	ino, errno := other.Create(1, "a", file(0), "")
	is(t, "Create", told(ino, errno), "2 0")
	_, errno = f.Stat(2)
	is(t, "Stat", errno, api.OK)
}

// TestMake: the root as it is told; it stands there once.
func TestMake(t *testing.T) {
	f := blank(t, small)
	for _, o := range each() {
		want := api.ENOENT
		switch o.call {
		case "make":
			continue
		case "orphans", "recover", "purge":
			want = api.OK
		}
		is(t, "without a root: "+o.String(), o.on(f), told(o.zero(), want))
	}
	is(t, "Waiting", f.Cache().Waiting(), 0)
	is(t, "Make", f.Make(), api.OK)
	is(t, "Waiting", f.Cache().Waiting(), 1)
	i, errno := f.Stat(1)
	is(t, "Stat", told(i, errno), told(api.Inode{Ino: 1, Kind: api.Dir, Mode: 493, Links: 2}, api.OK))
	is(t, "Make", f.Make(), api.EEXIST)
	is(t, "Waiting", f.Cache().Waiting(), 1)
	sound(t, "made", f.Cache())
}

// TestHanded: what is handed in is not changed and not kept; what is handed out is new.
func TestHanded(t *testing.T) {
	f := made(t, small)
	for _, name := range []string{"a", "b", "c"} {
		f.Create(1, name, file(0), "")
	}
	f.Unlink(1, "b")
	f.Unlink(1, "c")
	data := []byte("hello, world")
	f.Write(2, 126, data[:5])
	is(t, "data", string(data), "hello, world")
	copy(data, "HELLO, WORLD")
	for range 2 {
		b, _ := f.Read(2, 126, 9)
		is(t, "Read", string(b), "hello")
		clear(append(b[:cap(b)], 1)[:cap(b)])
		l, _ := f.Readdir(1)
		is(t, "Readdir", fmt.Sprint(l), "[{a 2 1}]")
		clear(l[:cap(l)])
		o, _ := f.Orphans()
		is(t, "Orphans", slices.Equal(o, []int{3, 4}), true)
		clear(o[:cap(o)])
	}
}
