package audit

import (
	"fmt"
	"math/rand"
	"slices"
	"sort"
	"strings"
	"testing"

	"pumice/api"
	"pumice/node"
)

// model: a file system's nodes, of which each thing is asked in the chapter's words, by looking through all of them.
type model []api.Node

// placed: an entry, and where it stands.
type placed struct {
	dir int
	api.Entry
}

func modelOf(l []api.Node) model {
	m := model{}
	for at, n := range l {
		last := !slices.ContainsFunc(l[at+1:], func(x api.Node) bool { return x.Key == n.Key })
		if last && !n.Gone {
			m = append(m, n)
		}
	}
	sort.Slice(m, func(a, b int) bool { return m[a].Key < m[b].Key })
	return m
}

func (m model) value(key string) (api.Node, bool) {
	at := slices.IndexFunc(m, func(x api.Node) bool { return x.Key == key })
	if at < 0 {
		return api.Node{}, false
	}
	return m[at], true
}

func (m model) inode(ino int) (api.Inode, bool) {
	if ino < 1 || ino > api.MaxInodes {
		return api.Inode{}, false
	}
	n, ok := m.value(node.InodeKey(ino))
	if !ok {
		return api.Inode{}, false
	}
	return node.ParseInode(n)
}

// inodes: all that are there, rising, as their keys do.
func (m model) inodes() []api.Inode {
	l := []api.Inode{}
	for _, n := range m {
		kind, ino, _, _ := node.Kind(n.Key)
		if i, ok := m.inode(ino); ok && kind == 1 {
			l = append(l, i)
		}
	}
	return l
}

func (m model) orphan(ino int) bool {
	_, ok := m.value(node.OrphanKey(ino))
	return ok
}

func (m model) entries() []placed {
	l := []placed{}
	for _, n := range m {
		if dir, e, ok := node.ParseEntry(n); ok {
			l = append(l, placed{dir, e})
		}
	}
	return l
}

func (m model) names(ino int) int {
	count := 0
	for _, e := range m.entries() {
		if e.Ino == ino {
			count++
		}
	}
	return count
}

// leads: does one lead to the other by one entry or more?
func (m model) leads(ino, to int) bool {
	reached := []int{ino}
	for at := 0; at < len(reached); at++ {
		for _, e := range m.entries() {
			if e.dir != reached[at] {
				continue
			}
			if e.Ino == to {
				return true
			}
			if !slices.Contains(reached, e.Ino) {
				reached = append(reached, e.Ino)
			}
		}
	}
	return false
}

// spoilt: 1.
func spoilt(n api.Node) bool {
	kind, ino, name, b := node.Kind(n.Key)
	made, errno := api.Node{}, api.EINVAL
	switch kind {
	case 1:
		i, _ := node.ParseInode(n)
		made, errno = node.Inode(i)
	case 2:
		_, e, _ := node.ParseEntry(n)
		made, errno = node.Entry(ino, api.Entry{Name: name, Ino: e.Ino, Kind: e.Kind})
	case 3:
		made, errno = node.Block(ino, b, []byte(n.Value))
	case 4:
		made, errno = node.Orphan(ino)
	}
	return errno != api.OK || made != n
}

func (m model) links(i api.Inode) int {
	names := m.names(i.Ino)
	if i.Kind != api.Dir {
		return names
	}
	if i.Ino != 1 && names != 1 {
		return 0
	}
	links := 2
	for _, e := range m.entries() {
		if e.dir == i.Ino && e.Kind == api.Dir {
			links++
		}
	}
	return links
}

func (m model) wrongInode(i api.Inode) []int {
	var l []int
	if i.Links != m.links(i) {
		l = append(l, 7)
	}
	if m.names(i.Ino) == 0 && i.Ino != 1 && !m.orphan(i.Ino) {
		l = append(l, 8)
	}
	if i.Kind == api.Dir && (m.names(i.Ino) > 1 || m.leads(i.Ino, i.Ino)) {
		l = append(l, 9)
	}
	return l
}

func (m model) wrongEntry(e placed) []int {
	var l []int
	if d, ok := m.inode(e.dir); !ok || d.Kind != api.Dir || e.dir != 1 && m.names(e.dir) == 0 {
		l = append(l, 2)
	}
	if i, ok := m.inode(e.Ino); !ok {
		l = append(l, 3)
	} else if i.Kind != e.Kind {
		l = append(l, 4)
	}
	return l
}

func (m model) wrongBlock(ino, b, size int) []int {
	i, ok := m.inode(ino)
	if !ok || i.Kind == api.Dir {
		return []int{5}
	}
	if b*api.Unit+size > i.Size && !m.orphan(ino) {
		return []int{6}
	}
	return nil
}

func (m model) wrong(n api.Node) []int {
	if spoilt(n) {
		return []int{1}
	}
	kind, ino, _, b := node.Kind(n.Key)
	switch kind {
	case 1:
		i, _ := m.inode(ino)
		return m.wrongInode(i)
	case 2:
		dir, e, _ := node.ParseEntry(n)
		return m.wrongEntry(placed{dir, e})
	case 3:
		return m.wrongBlock(ino, b, len(n.Value))
	}
	if _, ok := m.inode(ino); !ok {
		return []int{10}
	}
	return nil
}

func (m model) check() []Finding {
	l := []Finding{}
	for _, n := range m {
		for _, kind := range m.wrong(n) {
			l = append(l, Finding{kind, n.Key})
		}
	}
	if i, ok := m.inode(1); !ok || i.Kind != api.Dir || m.names(1) > 0 {
		l = append(l, Finding{11, node.InodeKey(1)})
	}
	sort.SliceStable(l, func(a, b int) bool { return l[a].Key < l[b].Key })
	return l
}

func (m model) count() Totals {
	c := Totals{Entries: len(m.entries())}
	for _, i := range m.inodes() {
		c.Inodes++
		*[]*int{&c.Files, &c.Dirs, &c.Links}[i.Kind-1]++
		if i.Kind == api.File {
			c.Bytes += i.Size
		}
	}
	for _, n := range m {
		kind, _, _, _ := node.Kind(n.Key)
		if kind == 3 && !spoilt(n) {
			c.Blocks++
		}
		if kind == 4 && !spoilt(n) {
			c.Orphans++
		}
	}
	return c
}

func (m model) reach() []int {
	l := []int{}
	if _, ok := m.inode(1); !ok {
		return l
	}
	for _, i := range m.inodes() {
		if i.Ino == 1 || m.leads(1, i.Ino) {
			l = append(l, i.Ino)
		}
	}
	return l
}

func (m model) free() int {
	for ino := 1; ; ino++ {
		_, ok := m.value(node.InodeKey(ino))
		if !ok && !m.orphan(ino) {
			return ino
		}
	}
}

// shown: a list as a text.
func shown(l []api.Node) string {
	var b strings.Builder
	for _, n := range l {
		fmt.Fprintf(&b, " %s=%x", keyText(n.Key), n.Value)
		if n.Gone {
			b.WriteString("(gone)")
		}
	}
	return b.String()
}

func agrees(t *testing.T, l []api.Node) {
	t.Helper()
	m, of := modelOf(l), " of"+shown(l)
	want := m.check()
	is(t, "Check"+of, told(Check(l)), told(want))
	is(t, "Sound"+of, Sound(l), len(want) == 0)
	is(t, "Count"+of, Count(l), m.count())
	same(t, "Reach"+of, Reach(l), m.reach())
	n, ok := Free(l)
	is(t, "Free"+of, n, m.free())
	is(t, "Free"+of, ok, true)
	for ino := -1; ino < 9; ino++ {
		is(t, "Names"+of, Names(l, ino), m.names(ino))
		for dir := -1; dir < 9; dir++ {
			if got := Below(l, ino, dir); got != (ino == dir || m.leads(ino, dir)) {
				t.Errorf("Below %d, %d%s: %v", ino, dir, of, got)
			}
		}
	}
}

// Lists by chance.

func someName(chance *rand.Rand) string { return string(rune('a' + chance.Intn(3))) }

// someNode: of few inodes, so that much hangs together.
func someNode(chance *rand.Rand) api.Node {
	ino, kind := 1+chance.Intn(6), 1+chance.Intn(3)
	switch chance.Intn(12) {
	case 0, 1, 2:
		return inode(ino, kind, chance.Intn(4), chance.Intn(260))
	case 3, 4:
		return dir(ino, 2+chance.Intn(3))
	case 5, 6, 7, 8:
		return entry(ino, someName(chance), 1+chance.Intn(6), kind)
	case 9:
		return block(ino, chance.Intn(3), 1+chance.Intn(128))
	case 10:
		return orphan(ino)
	}
	return oddNode(chance, ino)
}

// oddNode: one that is Gone, or wrong by itself.
func oddNode(chance *rand.Rand, ino int) api.Node {
	keys := []string{node.InodeKey(ino), node.EntryKey(ino, someName(chance)), node.BlockKey(ino, chance.Intn(3)), node.OrphanKey(ino)}
	key := keys[chance.Intn(len(keys))]
	switch chance.Intn(4) {
	case 0:
		return gone(key)
	case 1:
		return raw(key+"\x00", "x")
	case 2:
		return raw(key[1:], "")
	}
	return raw(key, long(chance.Intn(2)*200))
}

func someNodes(chance *rand.Rand, count int) []api.Node {
	l := make([]api.Node, 0, count)
	for range count {
		l = append(l, someNode(chance))
	}
	return l
}

func TestByChance(t *testing.T) {
	chance := rand.New(rand.NewSource(18))
	kinds := map[int]int{}
	for range 1500 {
		l := someNodes(chance, chance.Intn(25))
		agrees(t, l)
		for _, f := range Check(l) {
			kinds[f.Kind]++
		}
	}
	for kind := 1; kind <= 11; kind++ {
		if kinds[kind] < 50 {
			t.Errorf("%d was found %d times", kind, kinds[kind])
		}
	}
}

// TestBytesByChance: whatever stands in keys and values.
func TestBytesByChance(t *testing.T) {
	chance := rand.New(rand.NewSource(19))
	some := func(most int) string {
		b := make([]byte, chance.Intn(most))
		for i := range b {
			b[i] = byte(chance.Intn(5))
		}
		return string(b)
	}
	for range 1000 {
		var l []api.Node
		for range chance.Intn(20) {
			l = append(l, api.Node{Key: some(8), Value: some(15), Gone: chance.Intn(9) == 0})
		}
		agrees(t, l)
	}
}

// P1801

func TestOrder(t *testing.T) {
	chance := rand.New(rand.NewSource(20))
	for range 150 {
		l := []api.Node(modelOf(someNodes(chance, 30)))
		if chance.Intn(2) == 0 {
			l = append(l, gone(node.EntryKey(2, "gone")), gone(node.InodeKey(8)))
		}
		want := calls(l)
		for range 5 {
			chance.Shuffle(len(l), func(a, b int) { l[a], l[b] = l[b], l[a] })
			is(t, "shuffled"+shown(l), calls(l), want)
		}
	}
}
