package audit

import (
	"fmt"
	"math/rand"
	"slices"
	"testing"
	"time"

	"pumice/api"
	"pumice/node"
)

// grower: makes sound file systems by chance.
type grower struct {
	chance  *rand.Rand
	dirs    []int       // the root, and all that stand below it
	links   map[int]int // of each Dir
	next    int
	entries int
	l       []api.Node
}

func (g *grower) number() int {
	g.next++
	return g.next
}

// name: a new one in any Dir.
func (g *grower) name(ino, kind int) int {
	dir := g.dirs[g.chance.Intn(len(g.dirs))]
	g.entries++
	g.l = append(g.l, entry(dir, fmt.Sprint("n", g.entries), ino, kind))
	return dir
}

func (g *grower) growDir() {
	ino := g.number()
	g.links[g.name(ino, api.Dir)]++
	g.links[ino] = 2
	g.dirs = append(g.dirs, ino)
}

// growFile: a File or a Link of some names, with some of its blocks; of one without a name, or of which something is to be taken out yet, an orphan's node.
func (g *grower) growFile() {
	ino, kind := g.number(), api.File+2*g.chance.Intn(2)
	names, size := g.chance.Intn(4), g.chance.Intn(600)
	for range names {
		g.name(ino, kind)
	}
	waits := names == 0 || g.chance.Intn(4) == 0
	if waits {
		g.l = append(g.l, orphan(ino))
	}
	g.l = append(g.l, inode(ino, kind, names, size))
	for b := range 8 {
		room := min(size-b*api.Unit, api.Unit)
		if waits {
			room = api.Unit
		}
		if room > 0 && g.chance.Intn(3) > 0 {
			g.l = append(g.l, block(ino, b, 1+g.chance.Intn(room)))
		}
	}
}

func (g *grower) growEmptyDir() {
	ino := g.number()
	g.l = append(g.l, orphan(ino), dir(ino, 0))
}

func grown(chance *rand.Rand) []api.Node {
	g := &grower{chance: chance, dirs: []int{1}, links: map[int]int{1: 2}, next: 1}
	for range chance.Intn(12) {
		switch chance.Intn(5) {
		case 0, 1:
			g.growDir()
		case 2, 3:
			g.growFile()
		case 4:
			g.growEmptyDir()
		}
	}
	for ino, links := range g.links {
		g.l = append(g.l, dir(ino, links))
	}
	return modelOf(g.l)
}

// without: the list without the node at that place.
func without(l []api.Node, at int) []api.Node { return slices.Delete(slices.Clone(l), at, at+1) }

func TestGrown(t *testing.T) {
	chance := rand.New(rand.NewSource(21))
	for range 300 {
		l := grown(chance)
		if !Sound(l) {
			t.Errorf("not sound: %s:%s", told(Check(l)), shown(l))
		}
		agrees(t, l)
	}
}

// holdsTogether: P1802, in the chapter's words.
func holdsTogether(t *testing.T, l []api.Node) {
	t.Helper()
	m := modelOf(l)
	for _, i := range m.inodes() {
		ino := i.Ino
		if ino != 1 && !m.leads(1, ino) && !m.orphan(ino) {
			t.Errorf("inode %d is not reached:%s", ino, shown(l))
		}
		if i.Kind != api.Dir && m.names(ino) != i.Links {
			t.Errorf("inode %d has %d names, %d Links:%s", ino, m.names(ino), i.Links, shown(l))
		}
	}
}

// TestHoldsTogether: what is sound behind some slips, too.
func TestHoldsTogether(t *testing.T) {
	chance := rand.New(rand.NewSource(22))
	sound := 0
	for range 3000 {
		l := grown(chance)
		for range chance.Intn(3) {
			l = slip(chance, l)
		}
		want := len(modelOf(l).check()) == 0
		is(t, "Sound of"+shown(l), Sound(l), want)
		if Sound(l) {
			sound++
			holdsTogether(t, l)
		}
	}
	if sound < 300 {
		t.Errorf("only %d were sound", sound)
	}
}

// slip: a node is taken out, put in, or changed by another one's value.
func slip(chance *rand.Rand, l []api.Node) []api.Node {
	at, other := chance.Intn(len(l)), chance.Intn(len(l))
	switch chance.Intn(3) {
	case 0:
		if len(l) > 1 {
			return without(l, at)
		}
	case 1:
		return append(slices.Clone(l), someNode(chance))
	case 2:
		l = slices.Clone(l)
		l[at].Value = l[other].Value
	}
	return l
}

// TestSlipsByChance: all that is found behind one slip.
func TestSlipsByChance(t *testing.T) {
	chance := rand.New(rand.NewSource(23))
	for range 400 {
		agrees(t, slip(chance, grown(chance)))
	}
}

// P1803

func TestOneSlip(t *testing.T) {
	chance := rand.New(rand.NewSource(24))
	inodes, entries := 0, 0
	for range 400 {
		l := grown(chance)
		for at, n := range l {
			kind, ino, _, _ := node.Kind(n.Key)
			_, e, _ := node.ParseEntry(n)
			switch {
			case kind == 1 && ino != 1:
				inodes++
			case kind == 2 && e.Kind == api.File:
				entries++
			default:
				continue
			}
			if Sound(without(l, at)) {
				t.Errorf("sound without %s:%s", keyText(n.Key), shown(l))
			}
		}
	}
	if inodes < 500 || entries < 500 {
		t.Errorf("%d inodes, %d entries", inodes, entries)
	}
}

// Great ones.

// within: it ends soon enough; asking each Dir where it leads would take a thousand times as long.
func within(t *testing.T, what string, do func()) {
	t.Helper()
	start := time.Now()
	do()
	if took := time.Since(start); took > 20*time.Second {
		t.Errorf("%s took %v", what, took)
	}
}

// TestDeep: Dirs in Dirs, as deep as there are numbers.
func TestDeep(t *testing.T) {
	var l []api.Node
	all := []int{}
	for ino := 1; ino < api.MaxInodes; ino++ {
		l = append(l, dir(ino, 3), entry(ino, "d", ino+1, api.Dir))
		all = append(all, ino)
	}
	l, all = append(l, dir(api.MaxInodes, 2)), append(all, api.MaxInodes)
	within(t, "a chain", func() {
		finds(t, "a chain", l, "")
		same(t, "Reach of a chain", Reach(l), all)
		is(t, "from the first to the last", Below(l, 1, api.MaxInodes), true)
		is(t, "from the last to the first", Below(l, api.MaxInodes, 1), false)
	})
	ring := append(slices.Clone(l[:len(l)-1]), dir(api.MaxInodes, 3), entry(api.MaxInodes, "r", 1, api.Dir))
	within(t, "a ring", func() {
		f := Check(ring)
		is(t, "findings of a ring", len(f), api.MaxInodes+1)
		is(t, "the first of them", told(f[:3]), "9 i1, 11 i1, 9 i2")
		is(t, "from the last to the first", Below(ring, api.MaxInodes, api.MaxInodes-1), true)
	})
}

// TestWide: each Dir names a hundred others, round and round.
func TestWide(t *testing.T) {
	var l []api.Node
	for ino := range api.MaxInodes {
		l = append(l, dir(ino+1, 0))
		for n := range 100 {
			l = append(l, entry(ino+1, fmt.Sprint(n), (ino+n)%api.MaxInodes+1, api.Dir))
		}
	}
	within(t, "all of all", func() {
		is(t, "findings", len(Check(l)), api.MaxInodes+2) // 9 of each, 7 and 11 of the root
		is(t, "Reach", len(Reach(l)), api.MaxInodes)
		is(t, "Names", Names(l, 77), 100)
		is(t, "Count", Count(l), Totals{Inodes: 4096, Dirs: 4096, Entries: 409600})
	})
}
