package fscore

import (
	"errors"
	"fmt"
	"math/rand"
	"testing"

	"pumice/api"
	"pumice/node"
	"pumice/store"
)

// odd: a file system into which somebody put such nodes.
func odd(t *testing.T, l ...api.Node) *Core {
	t.Helper()
	f := made(t, middle)
	for _, o := range []op{
		{call: "create", ino: 1, name: "a", i: file(0)}, {call: "create", ino: 1, name: "b", i: symlink(), text: text(200, 1)}, {call: "create", ino: 1, name: "c", i: folder()}, {call: "create", ino: 4, name: "d", i: folder()},
		{call: "write", ino: 2, text: text(300, 1)}, {call: "create", ino: 1, name: "e", i: file(0)}, {call: "unlink", ino: 1, name: "e"},
	} {
		o.on(f)
	}
	if len(l) > 0 {
		is(t, "Put", f.Cache().Put(l), api.OK)
	}
	return f
}

func raw(key, value string) api.Node { return api.Node{Key: key, Value: value} }

func sure(n api.Node, errno api.Errno) api.Node {
	if errno != api.OK {
		panic(errno)
	}
	return n
}

// TestUnclean: a node that is there and that node does not take: EUCLEAN of each call that reads it; of others not.
func TestUnclean(t *testing.T) {
	right := sure(node.Inode(api.Inode{Ino: 2, Kind: api.File, Links: 1})).Value
	for _, value := range []string{"", "x", right + "x", right[1:], text(256, 1), "\x04" + right[1:], right[:7] + "\x65" + right[8:]} {
		refused(t, odd(t, raw(node.InodeKey(2), value)), []refusal{
			{stat(2), api.EUCLEAN},
			{op{call: "lookup", ino: 2, name: "."}, api.EUCLEAN},
			{op{call: "readdir", ino: 2}, api.EUCLEAN},
			{op{call: "read", ino: 2, at: -1}, api.EUCLEAN},
			{op{call: "readlink", ino: 2}, api.EUCLEAN},
			{op{call: "create", ino: 2, name: "."}, api.EUCLEAN},
			{op{call: "link", ino: 2, to: 1, name: "n"}, api.EUCLEAN},
			{op{call: "link", ino: 3, to: 2, name: "n"}, api.EUCLEAN},
			{op{call: "unlink", ino: 2, name: "n"}, api.EUCLEAN},
			{op{call: "unlink", ino: 1, name: "a"}, api.EUCLEAN},
			{op{call: "rmdir", ino: 2, name: "n"}, api.EUCLEAN},
			{op{call: "rename", ino: 2, name: "n", to: 1, other: "n"}, api.EUCLEAN},
			{op{call: "rename", ino: 1, name: "b", to: 2, other: "n"}, api.EUCLEAN},
			{op{call: "rename", ino: 1, name: "b", to: 1, other: "a"}, api.EUCLEAN},
			{op{call: "write", ino: 2, at: -1}, api.EUCLEAN},
			{op{call: "truncate", ino: 2, n: -1}, api.EUCLEAN},
			{op{call: "set", i: api.Inode{Ino: 2}}, api.EUCLEAN},
			{op{call: "set", i: api.Inode{Ino: 2, Mode: -1}}, api.EINVAL},
			{op{call: "create", ino: 1, name: "a"}, api.EEXIST},
		})
	}
	refused(t, odd(t, raw(node.InodeKey(1), "x")), []refusal{{op{call: "make"}, api.EUCLEAN}, {stat(1), api.EUCLEAN}})
	refused(t, odd(t, raw(node.InodeKey(6), "x")), []refusal{{op{call: "purge", ino: 6}, api.EUCLEAN}, {op{call: "recover"}, api.EUCLEAN}})
}

// TestUncleanEntries: likewise of entries.
func TestUncleanEntries(t *testing.T) {
	for _, value := range []string{"", "x", "\x02\x00\x01x", "\x00\x00\x01", "\x01\x10\x01", "\x02\x00\x00", "\x02\x00\x04"} {
		f := odd(t, raw(node.EntryKey(1, "a"), value))
		refused(t, f, []refusal{
			{op{call: "lookup", ino: 1, name: "a"}, api.EUCLEAN},
			{op{call: "readdir", ino: 1}, api.EUCLEAN},
			{op{call: "create", ino: 1, name: "a"}, api.EUCLEAN},
			{op{call: "link", ino: 2, to: 1, name: "a"}, api.EUCLEAN},
			{op{call: "unlink", ino: 1, name: "a"}, api.EUCLEAN},
			{op{call: "rmdir", ino: 1, name: "a"}, api.EUCLEAN},
			{op{call: "rename", ino: 1, name: "a", to: 1, other: "n"}, api.EUCLEAN},
			{op{call: "rename", ino: 1, name: "b", to: 1, other: "a"}, api.EUCLEAN},
		})
		is(t, "Lookup of another one", op{call: "lookup", ino: 1, name: "b"}.on(f), "{b 3 3} 0")
		f = odd(t, raw(node.EntryKey(5, "x"), value))
		refused(t, f, []refusal{
			{op{call: "rmdir", ino: 4, name: "d"}, api.EUCLEAN},
			{op{call: "rename", ino: 1, name: "c", to: 4, other: "n"}, api.EINVAL}, // it is that Dir: nothing need be read
		})
		_, errno := f.Create(1, "z", folder(), "")
		is(t, "Create", errno, api.OK)
		refused(t, f, []refusal{
			{op{call: "rename", ino: 1, name: "z", to: 4, other: "d"}, api.EUCLEAN},
			{op{call: "rename", ino: 4, name: "d", to: 1, other: "n"}, api.EUCLEAN}, // what is below can't be told
		})
	}
	refused(t, odd(t, raw(node.EntryKey(1, "a/b"), "\x02\x00\x01")), []refusal{{op{call: "readdir", ino: 1}, api.EUCLEAN}})
	refused(t, odd(t, raw(node.EntryKey(5, ""), "\x02\x00\x01")), []refusal{{op{call: "rmdir", ino: 4, name: "d"}, api.EUCLEAN}})
}

// TestUncleanBlocks: likewise of blocks, and of orphans' nodes.
func TestUncleanBlocks(t *testing.T) {
	for _, value := range []string{"", text(129, 1), text(256, 1)} {
		f := odd(t, raw(node.BlockKey(2, 1), value))
		refused(t, f, []refusal{
			{op{call: "read", ino: 2, n: 129}, api.EUCLEAN},
			{op{call: "read", ino: 2, at: 255, n: 1}, api.EUCLEAN},
			{op{call: "write", ino: 2, at: 100, text: text(100, 1)}, api.EUCLEAN},
			{op{call: "truncate", ino: 2, n: 1}, api.EUCLEAN},
			{op{call: "truncate", ino: 2, n: 130}, api.EUCLEAN},
		})
		is(t, "Read of others", op{call: "read", ino: 2, at: 256, n: 9}.on(f), text(300, 1)[256:265]+" 0")
		is(t, "Read ahead of it", op{call: "read", ino: 2, at: 126, n: 2}.on(f), text(300, 1)[126:128]+" 0")
		is(t, "Truncate behind it", op{call: "truncate", ino: 2, n: 257}.on(f), "- 0")
		is(t, "Truncate to more", op{call: "truncate", ino: 2, n: 1000}.on(f), "- 0")
		refused(t, odd(t, raw(node.BlockKey(3, 1), value)), []refusal{{op{call: "readlink", ino: 3}, api.EUCLEAN}})
		refused(t, odd(t, raw(node.BlockKey(6, 1), value)), []refusal{{op{call: "purge", ino: 6}, api.EUCLEAN}, {op{call: "recover"}, api.EUCLEAN}})
	}
	refused(t, odd(t, raw(node.BlockKey(2, 128), "x")), []refusal{{op{call: "truncate", ino: 2}, api.EUCLEAN}})
	for _, n := range []api.Node{raw(node.OrphanKey(6), "x"), raw(node.OrphanKey(6)+"x", ""), raw(node.OrphanKey(0), ""), raw(node.OrphanKey(4097), "")} {
		refused(t, odd(t, n), []refusal{{op{call: "orphans"}, api.EUCLEAN}, {op{call: "recover"}, api.EUCLEAN}})
	}
	refused(t, odd(t, raw(node.OrphanKey(6), "x")), []refusal{{op{call: "purge", ino: 6}, api.EUCLEAN}})
}

// TestUnsound: nodes that are each clean, but no file system together: no call panics; what can't be is EUCLEAN, what is not there ENOENT.
func TestUnsound(t *testing.T) {
	inode := func(ino, kind, links int) api.Node {
		return sure(node.Inode(api.Inode{Ino: ino, Kind: kind, Links: links}))
	}
	entry := func(dir int, name string, ino, kind int) api.Node {
		return sure(node.Entry(dir, api.Entry{Name: name, Ino: ino, Kind: kind}))
	}
	refused(t, odd(t, inode(2, api.File, 0)), []refusal{
		{op{call: "unlink", ino: 1, name: "a"}, api.EUCLEAN},
		{op{call: "rename", ino: 1, name: "b", to: 1, other: "a"}, api.EUCLEAN},
	})
	refused(t, odd(t, inode(4, api.Dir, 0)), []refusal{
		{op{call: "rmdir", ino: 4, name: "d"}, api.EUCLEAN},
		{op{call: "rename", ino: 4, name: "d", to: 1, other: "n"}, api.EUCLEAN},
	})
	refused(t, odd(t, entry(1, "x", 77, api.File), entry(1, "y", 78, api.Dir)), []refusal{
		{op{call: "unlink", ino: 1, name: "x"}, api.ENOENT},
		{op{call: "rmdir", ino: 1, name: "y"}, api.ENOENT},
		{op{call: "rename", ino: 1, name: "a", to: 1, other: "x"}, api.ENOENT},
		{op{call: "rename", ino: 4, name: "d", to: 1, other: "y"}, api.ENOENT},
	})
	// Rings: what is below is told, all the same; over entries that say File, too.
	refused(t, odd(t, entry(5, "up", 4, api.Dir), entry(5, "self", 5, api.Dir), entry(5, "file", 1, api.File)), []refusal{
		{op{call: "rename", ino: 4, name: "d", to: 4, other: "n"}, api.EINVAL},
		{op{call: "rename", ino: 4, name: "d", to: 5, other: "n"}, api.EINVAL},
		{op{call: "rename", ino: 4, name: "d", to: 1, other: "n"}, api.EINVAL},
		{op{call: "rmdir", ino: 5, name: "self"}, api.ENOTEMPTY},
	})
}

// TestSpoilt: where the chip can't be read any more: EIO, of what need be read.
func TestSpoilt(t *testing.T) {
	f := odd(t)
	is(t, "Sync", f.Cache().Sync(), api.OK)
	f.Cache().Evict(0)
	for block := range chipOf(f).Geometry().Blocks {
		chipOf(f).Erase(block)
	}
	for _, o := range each() {
		if o.call == "purge" {
			o.ino = 6 // one that is an orphan
		}
		is(t, o.String(), o.on(f), told(o.zero(), api.EIO))
	}
	is(t, "Waiting", f.Cache().Waiting(), 0)
}

// TestPowerOff: ENXIO where the map is read; what is wrong in itself comes first. Behind Power alone likewise.
func TestPowerOff(t *testing.T) {
	f := odd(t)
	arm(t, chipOf(f), api.Fault{At: 1, Kind: api.Cut})
	is(t, "Sync", f.Cache().Sync(), api.ENXIO)
	for _, on := range []bool{false, true} {
		if on {
			chipOf(f).Power()
		}
		for _, o := range append(each(), op{call: "write", ino: 2, at: -1}, op{call: "truncate", ino: 1, n: -1}, op{call: "create", ino: 1, name: "."}, op{call: "purge", ino: 6}) {
			is(t, o.String(), o.on(f), told(o.zero(), api.ENXIO))
		}
		for _, o := range []op{stat(0), {call: "lookup", ino: 4097, name: "."}, {call: "set", i: api.Inode{Mode: 512}}, {call: "purge", ino: -1}, {call: "write", ino: -1}} {
			want := api.ENOENT
			if o.call == "set" || o.call == "purge" {
				want = api.EINVAL
			}
			is(t, o.String(), o.on(f), told(o.zero(), want))
		}
	}
}

// TestSpent: EROFS of what would change something, nothing of what would not; what is looked at stays right.
func TestSpent(t *testing.T) {
	f := odd(t)
	var looks []answered
	for _, o := range []op{stat(1), stat(2), {call: "readdir", ino: 1}, {call: "lookup", ino: 4, name: "d"}, {call: "read", ino: 2, n: 999}, {call: "readlink", ino: 3}, {call: "orphans"}} {
		looks = append(looks, answered{o, o.on(f)})
	}
	var plan []api.Fault
	for n := range middle.Reserve + 1 {
		plan = append(plan, api.Fault{At: 1 + n, Kind: api.Fail})
	}
	arm(t, chipOf(f), plan...)
	is(t, "Sync", f.Cache().Sync(), api.EROFS)
	var l []refusal
	for _, o := range []op{
		{call: "create", ino: 1, name: "n", i: file(0)}, {call: "link", ino: 2, to: 1, name: "n"}, {call: "unlink", ino: 1, name: "a"}, {call: "rmdir", ino: 4, name: "d"}, {call: "rename", ino: 1, name: "a", to: 4, other: "n"},
		{call: "write", ino: 2, text: "x"}, {call: "truncate", ino: 2}, {call: "truncate", ino: 2, n: 301}, {call: "set", i: api.Inode{Ino: 2, Mode: 1}}, {call: "purge", ino: 6}, {call: "recover"},
	} {
		l = append(l, refusal{o, api.EROFS})
	}
	for _, o := range []op{{call: "write", ino: 2}, {call: "truncate", ino: 2, n: 300}, {call: "set", i: api.Inode{Ino: 2}}, {call: "purge", ino: 2}, {call: "rename", ino: 1, name: "a", to: 1, other: "a"}} {
		l = append(l, refusal{o, api.OK})
	}
	refused(t, f, append(l, refusal{op{call: "make"}, api.EEXIST}, refusal{op{call: "create", ino: 1, name: "a"}, api.EEXIST}))
	for _, a := range looks {
		is(t, a.o.String(), a.o.on(f), a.want)
	}
}

// TestStumble: what comes up within a call is told, whatever it is.
func TestStumble(t *testing.T) {
	for _, wrong := range []any{"a text", 7, errors.New("another error"), fmt.Errorf("wrapped: %w", errors.New("another error"))} {
		n, errno := answer(made(t, small), "stumble", func(*work) int { panic(wrong) })
		is(t, "another panic", told(n, errno), told(0, api.EUCLEAN))
	}
	var none []int
	n, errno := answer(made(t, small), "stumble", func(*work) int { return none[3] })
	is(t, "a panic of the language", told(n, errno), told(0, api.EUCLEAN))
	errno = errnoOf(fmt.Errorf("wrapped: %w", &failure{call: "call", err: api.EFBIG}))
	is(t, "wrapped twice", errno, api.EFBIG)
	is(t, "its text", (&failure{call: "call", err: api.EIO}).Error(), "call: "+api.EIO.Error())
}

// script: calls that make files of many blocks, cut them, take them out, and move things about.
func script() []op {
	l := []op{
		{call: "create", ino: 1, name: "a", i: file(0)}, {call: "create", ino: 1, name: "d", i: folder()}, {call: "create", ino: 3, name: "e", i: folder()},
	}
	for n := range 16 {
		l = append(l, op{call: "write", ino: 2, at: n * 200, text: text(20, n)})
	}
	l = append(l,
		op{call: "link", ino: 2, to: 4, name: "b"}, op{call: "create", ino: 4, name: "l", i: symlink(), text: text(200, 1)}, op{call: "truncate", ino: 2, n: 30},
		op{call: "rename", ino: 3, name: "e", to: 1, other: "e"}, op{call: "unlink", ino: 1, name: "a"}, op{call: "create", ino: 3, name: "f", i: file(7)}, op{call: "rename", ino: 3, name: "f", to: 4, other: "b"},
		op{call: "set", i: api.Inode{Ino: 6, Mode: 5}}, op{call: "write", ino: 6, at: 100, text: text(300, 2)}, op{call: "purge", ino: 2}, op{call: "rmdir", ino: 1, name: "d"}, op{call: "recover"},
	)
	for n := range 15 {
		l = append(l, op{call: "write", ino: 6, at: n * 128, text: text(5, n)})
	}
	return append(l, op{call: "unlink", ino: 4, name: "b"}, op{call: "purge", ino: 6}, op{call: "unlink", ino: 4, name: "l"}, op{call: "recover"})
}

// scripted: did the power go off?
func (p *player) scripted(t *testing.T, what string) bool {
	t.Helper()
	x := p.f.Cache()
	for n, o := range script() {
		p.do(t, what, o)
		errno := api.OK
		switch {
		case n%9 == 8:
			if errno = x.Sync(); errno == api.OK {
				p.states = p.states[len(p.states)-1:]
			}
		case n%4 > 0:
			_, errno = x.Flush()
		}
		if errno == api.OK && n%3 == 0 {
			flushed := p.flushed()
			if errno = x.Store().Commit(); errno == api.OK {
				p.states = p.states[flushed:]
			}
		}
		if errno == api.ENXIO {
			return true
		}
		is(t, what+": step", errno, api.OK)
	}
	return false
}

// TestCuts: P2002, P2006: each operation of a script is cut, in each way.
func TestCuts(t *testing.T) {
	cut := 0
	for _, g := range []api.Geometry{small, bare} {
		for at := 1; cutAt(t, g, at); at++ {
			cut++
		}
	}
	if cut < 100 {
		t.Errorf("only %d operations", cut)
	}
}

func cutAt(t *testing.T, g api.Geometry, at int) bool {
	t.Helper()
	for torn := range 3 {
		what := fmt.Sprint(g, " cut at ", at, ", torn ", torn)
		p := &player{r: rand.New(rand.NewSource(1)), f: made(t, g), states: []*tree{bareTree(), rootTree()}, told: map[string]int{}}
		arm(t, chipOf(p.f), api.Fault{At: at, Kind: api.Cut, Torn: torn})
		if !p.scripted(t, what) {
			return false
		}
		p.recover(t, what)
		is(t, what+": Sync", p.f.Cache().Sync(), api.OK)
		p.f = mounted(t, chipOf(p.f))
		p.held(t, what+": mounted again")
		if t.Failed() {
			t.FailNow()
		}
	}
	return true
}

// TestHalved: P2006: a cut between any two groups of a Truncate, a Purge, a Recover: the file system is sound ahead of Recover, too; Recover ends what was begun.
func TestHalved(t *testing.T) {
	for _, c := range []struct {
		links  int
		orphan bool
		o      op
	}{
		{1, false, op{call: "truncate", ino: 2, n: 129}}, {0, true, op{call: "truncate", ino: 2, n: 129}}, {0, true, op{call: "purge", ino: 2}}, {1, true, op{call: "purge", ino: 2}}, {0, true, op{call: "recover"}},
	} {
		for flushed := 0; ; flushed++ {
			what := fmt.Sprint(c, " behind ", flushed)
			size := 16384
			if c.links == 1 && c.orphan {
				size = 700
			}
			f := withBlocks(t, 0, 50, c.links, size, c.orphan)
			is(t, what, c.o.on(f), "- 0")
			if flushed > f.Cache().Waiting() {
				break
			}
			for range flushed {
				f.Cache().Flush()
			}
			is(t, what+": Commit", f.Cache().Store().Commit(), api.OK)
			done := f.Cache().Waiting() == 0
			s, errno := store.Mount(chipOf(f))
			is(t, what+": Mount", errno, api.OK)
			sound(t, what, s)
			f = mounted(t, chipOf(f))
			is(t, what+": Recover", f.Recover(), api.OK)
			is(t, what+": Orphans", op{call: "orphans"}.on(f), "[] 0")
			sound(t, what+": recovered", f.Cache())
			want := "i1"
			if c.links == 1 {
				size, blocks := 129, 2
				switch {
				case c.orphan:
					size, blocks = 700, 6
				case flushed == 0:
					size, blocks = 16384, 50
				}
				b, _ := f.Read(2, 0, 20000)
				is(t, what+": bytes", len(b), size)
				want += " e1/a i2"
				for n := range blocks {
					want += fmt.Sprint(" b2.", n)
				}
			}
			is(t, what+": the map", keys(t, f.Cache()), want)
			if done {
				break
			}
		}
	}
}
