package fscore

import (
	"fmt"
	"math/rand"
	"slices"
	"strings"
	"testing"

	"pumice/api"
	"pumice/audit"
	"pumice/names"
	"pumice/space"
)

// player: makes calls by chance, with steps between them, and holds what is answered against the model.
type player struct {
	r      *rand.Rand
	f      *Core
	states []*tree // the tree behind each group; the first one stands on the chip
	most   int     // bytes of a file
	told   map[string]int
	cuts   int
	lost   int // groups that went with one
}

func started(t *testing.T, g api.Geometry, seed int64, most int) *player {
	t.Helper()
	f := made(t, g)
	return &player{r: rand.New(rand.NewSource(seed)), f: f, states: []*tree{bareTree(), rootTree()}, most: most, told: map[string]int{}}
}

func (p *player) now() *tree { return p.states[len(p.states)-1] }

// flushed: the number of the tree that the store has.
func (p *player) flushed() int { return len(p.states) - 1 - p.f.Cache().Waiting() }

// ino: a number, most often that of an inode.
func (p *player) ino() int {
	if p.r.Intn(40) == 0 {
		return []int{-1, 0, 4096, 4097, 65537, 1 << 40, -1 << 63}[p.r.Intn(7)]
	}
	return 1 + p.r.Intn(len(p.now().inodes)+2)
}

func (p *player) dir() int {
	for range 4 {
		if ino := p.ino(); p.now().isDir(ino) {
			return ino
		}
	}
	return p.ino()
}

func (p *player) name() string {
	if p.r.Intn(50) == 0 {
		return []string{"", ".", "..", "a/b", "a\x00", text(25, 1)}[p.r.Intn(6)]
	}
	return []string{"a", "b", "c", "d", "aa", text(24, 1)}[p.r.Intn(6)]
}

// nameIn: most often of an entry that is there.
func (p *player) nameIn(dir int) string {
	l := []string{}
	for name := range p.now().names[dir] {
		l = append(l, name)
	}
	if len(l) == 0 || p.r.Intn(4) == 0 {
		return p.name()
	}
	return names.Sort(l)[p.r.Intn(len(l))]
}

func (p *player) place() int {
	if p.r.Intn(30) == 0 {
		return []int{-1, 16383, 16384, 16385, 1<<63 - 1, -1 << 63}[p.r.Intn(6)]
	}
	return p.r.Intn(p.most + 1)
}

func (p *player) mode() int { return []int{0, 420, 511, 512, -1, 7, 8, 9}[p.r.Intn(8)] }

func (p *player) owner() int { return []int{0, 1, 65535, 65536, -1, 7, 8, 9, 10, 11}[p.r.Intn(10)] }

// op: one by chance.
func (p *player) op() op {
	dir := p.dir()
	switch k := p.r.Intn(100); {
	case k < 18:
		i := api.Inode{Ino: p.r.Intn(9), Kind: 1 + p.r.Intn(3), Mode: 7 * (k + 1), Uid: k, Gid: 9, Links: 77, Size: 88}
		if p.r.Intn(10) == 0 {
			i = api.Inode{Kind: p.r.Intn(6) - 1, Mode: p.mode(), Uid: p.owner(), Gid: p.owner()}
		}
		o := op{call: "create", ino: dir, name: p.name(), i: i}
		if i.Kind == api.Link || p.r.Intn(20) == 0 {
			o.text = text([]int{0, 1, 127, 128, 129, 255, 255, 256, 30, 40}[p.r.Intn(10)], k)
		}
		return o
	case k < 23:
		return op{call: "link", ino: p.ino(), to: dir, name: p.name()}
	case k < 31:
		return op{call: "unlink", ino: dir, name: p.nameIn(dir)}
	case k < 36:
		return op{call: "rmdir", ino: dir, name: p.nameIn(dir)}
	case k < 46:
		to := p.dir()
		return op{call: "rename", ino: dir, name: p.nameIn(dir), to: to, other: p.nameIn(to)}
	case k < 64:
		return op{call: "write", ino: p.ino(), at: p.place(), text: text([]int{0, 1, 20, 128, 200, 511, 512, 512, 512, 513}[p.r.Intn(10)], p.r.Intn(999))}
	case k < 70:
		return op{call: "truncate", ino: p.ino(), n: p.place()}
	case k < 74:
		return op{call: "set", i: api.Inode{Ino: p.ino(), Kind: 9, Mode: p.mode(), Uid: p.owner(), Gid: p.owner(), Links: 9, Size: 9}}
	case k < 79:
		return op{call: "purge", ino: p.ino()}
	case k < 81:
		return op{call: "recover"}
	case k < 82:
		return op{call: "make"}
	}
	return p.lookOp(dir)
}

// lookOp: one that looks.
func (p *player) lookOp(dir int) op {
	switch p.r.Intn(6) {
	case 0:
		return op{call: "stat", ino: p.ino()}
	case 1:
		return op{call: "lookup", ino: dir, name: p.nameIn(dir)}
	case 2:
		return op{call: "readdir", ino: dir}
	case 3:
		return op{call: "readlink", ino: p.ino()}
	case 4:
		return op{call: "orphans"}
	}
	return op{call: "read", ino: p.ino(), at: p.place(), n: p.place()}
}

// do: a call answers what the model does, makes as many groups, and no operation of the chip.
func (p *player) do(t *testing.T, what string, o op) {
	t.Helper()
	waiting, ops := p.f.Cache().Waiting(), chipOf(p.f).Ops()
	got := o.on(p.f)
	want, states := p.now().do(o, p.f.Cache().Limit())
	is(t, fmt.Sprint(what, ": ", o), got, want)
	is(t, fmt.Sprint(what, ": ", o, ": groups"), p.f.Cache().Waiting()-waiting, len(states))
	is(t, fmt.Sprint(what, ": ", o, ": operations"), chipOf(p.f).Ops()-ops, 0)
	p.states = append(p.states, states...)
	p.told[fmt.Sprint(o.call, want[strings.LastIndex(want, " "):])]++
	if len(states) > 1 {
		p.told[o.call+" of groups"]++
	}
}

// held: the map is what the model has, and is sound.
func (p *player) held(t *testing.T, what string) {
	t.Helper()
	got, want := nodesOf(t, p.f.Cache()), p.now().nodes()
	if !slices.Equal(got, want) {
		t.Errorf("%s: %.900s, not %.900s", what, listed(got), listed(want))
	}
	is(t, what+": Sound", audit.Sound(got), true)
	is(t, what+": Cost", p.f.Cache().Cost(), space.Nodes(want))
	is(t, what+": Wrong", chipOf(p.f).Wrong(), 0)
}

// step: one of the background, by chance: what it answered.
func (p *player) step(t *testing.T, what string) api.Errno {
	t.Helper()
	x := p.f.Cache()
	var errno api.Errno
	synced := -1
	switch p.r.Intn(9) {
	case 0:
		x.Evict(p.r.Intn(9) - 1)
	case 1:
		synced = len(p.states) - 1
		errno = x.Sync()
	case 2:
		_, errno = x.Store().Collect()
	case 3:
		_, errno = x.Store().Wear()
	case 4:
		synced = p.flushed()
		errno = x.Store().Commit()
	default:
		_, errno = x.Flush()
	}
	if errno == api.OK && synced >= 0 {
		p.states = p.states[synced:]
	}
	return errno
}

// recover: behind a cut the map is one of those behind the groups since the last sync; behind Recover it is sound, and has no orphan's node.
func (p *player) recover(t *testing.T, what string) {
	t.Helper()
	l := p.states[:min(p.flushed()+2, len(p.states))] // the group that was about to be put may count
	chipOf(p.f).Power()
	arm(t, chipOf(p.f))
	p.f = mounted(t, chipOf(p.f))
	m := nodesOf(t, p.f.Cache())
	at := slices.IndexFunc(l, func(x *tree) bool { return slices.Equal(x.nodes(), m) })
	if at < 0 {
		t.Fatalf("%s: %.900s is none of %d trees", what, listed(m), len(l))
	}
	p.cuts++
	p.lost += len(p.states) - 1 - at
	p.states = []*tree{l[at]}
	if len(p.now().inodes) > 0 {
		is(t, what+": sound ahead of Recover", audit.Sound(m), true)
	} else {
		p.do(t, what, op{call: "make"})
	}
	p.do(t, what, op{call: "recover"})
	o, errno := p.f.Orphans()
	is(t, what+": Orphans", told(o, errno), "[] 0")
	p.held(t, what+": recovered")
}

// fill: a file gets many blocks, and loses most of them, with steps between: what the last one said.
func (p *player) fill(t *testing.T, what string) api.Errno {
	t.Helper()
	files := []int{}
	for ino := range p.now().bytes {
		if p.now().inodes[ino].Kind == api.File {
			files = append(files, ino)
		}
	}
	if len(files) == 0 {
		return api.OK
	}
	slices.Sort(files)
	ino := files[p.r.Intn(len(files))]
	l := []op{}
	for at := p.r.Intn(600); at < p.most-512; at += 512 {
		l = append(l, op{call: "write", ino: ino, at: at, text: text(512, at)})
	}
	k := p.r.Intn(5)
	if k < 3 {
		l = append(l, p.nameless(ino)...)
	}
	if k > 0 {
		l = append(l, op{call: "truncate", ino: ino, n: p.r.Intn(2000)})
	}
	if k < 2 {
		l = append(l, op{call: "purge", ino: ino})
	}
	for _, o := range l {
		p.do(t, what, o)
		if errno := p.step(t, what); errno != api.OK {
			return errno
		}
	}
	return api.OK
}

// nameless: an inode loses all its names.
func (p *player) nameless(ino int) []op {
	l := []op{}
	for dir, m := range p.now().names {
		for name, n := range m {
			if n == ino {
				l = append(l, op{call: "unlink", ino: dir, name: name})
			}
		}
	}
	slices.SortFunc(l, func(a, b op) int { return strings.Compare(a.String(), b.String()) })
	return l
}

// play: so many calls, each with a step behind it, some of which are cut.
func (p *player) play(t *testing.T, what string, calls, once int) {
	t.Helper()
	for n := range calls {
		at := fmt.Sprint(what, ", call ", n)
		if once > 0 && p.r.Intn(once) == 0 {
			arm(t, chipOf(p.f), api.Fault{At: 1 + p.r.Intn(12), Kind: api.Cut, Torn: p.r.Intn(3)})
		}
		p.do(t, at, p.op())
		errno := p.step(t, at)
		if errno == api.OK && p.most > 10000 && p.r.Intn(30) == 0 {
			errno = p.fill(t, at)
		}
		if errno == api.ENXIO {
			p.recover(t, at)
		} else {
			is(t, at+": step", errno, api.OK)
		}
		if n%8 == 0 {
			p.held(t, at)
		}
		if t.Failed() {
			t.FailNow()
		}
	}
	p.held(t, what)
}

// TestByChance: P2001 to P2005: all answers, the map behind each call, how many groups it makes.
func TestByChance(t *testing.T) {
	told := map[string]int{}
	for i, g := range []api.Geometry{small, least, bare, middle, great} {
		for j, most := range []int{300, 3000, 16384} {
			p := started(t, g, int64(i*10+j), most)
			p.told = told
			p.play(t, fmt.Sprint(g, " files of ", most), 1500, 0)
		}
	}
	for _, k := range []string{
		"stat 0", "stat 2", "lookup 0", "lookup 2", "lookup 20", "lookup 22", "readdir 0", "readdir 2", "readdir 20", "read 0", "read 2", "read 21", "read 22", "readlink 0", "readlink 2", "readlink 22", "orphans 0",
		"make 17", "create 0", "create 2", "create 17", "create 20", "create 22", "create 28", "create 36", "link 0", "link 1", "link 2", "link 17", "link 20", "link 22", "link 28",
		"unlink 0", "unlink 2", "unlink 20", "unlink 21", "rmdir 0", "rmdir 2", "rmdir 20", "rmdir 39",
		"rename 0", "rename 2", "rename 20", "rename 21", "rename 22", "rename 28", "rename 36", "rename 39",
		"write 0", "write 2", "write 21", "write 22", "write 27", "write 28", "truncate 0", "truncate 2", "truncate 21", "truncate 22", "truncate 27", "truncate of groups",
		"set 0", "set 2", "set 22", "purge 0", "purge 22", "purge of groups", "recover 0",
	} {
		if told[k] < 3 {
			t.Errorf("%s: only %d", k, told[k])
		}
	}
	// P2004: what takes out always has room. (A Truncate to more need not be told from one to less: it costs nothing either.)
	for _, call := range []string{"unlink", "rmdir", "purge", "truncate", "recover"} {
		is(t, call+" without room", told[call+" 28"], 0)
	}
}

// TestCutsByChance: P2002, P2006.
func TestCutsByChance(t *testing.T) {
	cuts, lost := 0, 0
	for i, g := range []api.Geometry{small, least, bare, middle, great} {
		for j, once := range []int{6, 40} {
			p := started(t, g, int64(100+i*10+j), []int{3000, 16384}[j])
			p.play(t, fmt.Sprint(g, " a cut in ", once), 900, once)
			cuts, lost = cuts+p.cuts, lost+p.lost
		}
	}
	if cuts < 100 || lost < 200 {
		t.Errorf("%d cuts, %d groups lost", cuts, lost)
	}
}

// TestFailuresByChance: failures of the chip, no more than its reserve, change no answer.
func TestFailuresByChance(t *testing.T) {
	for i, g := range []api.Geometry{small, least, middle} {
		p := started(t, g, int64(200+i), 3000)
		var plan []api.Fault
		for n := range g.Reserve {
			plan = append(plan, api.Fault{At: 5 + 19*n, Kind: api.Fail})
		}
		arm(t, chipOf(p.f), plan...)
		p.play(t, fmt.Sprint(g, " with failures"), 600, 0)
	}
}
