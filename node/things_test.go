package node

import (
	"bytes"
	"fmt"
	"math"
	"math/rand"
	"strings"
	"testing"

	"pumice/api"
)

// little: n in so many bytes, the lowest first.
func little(n, size int) string {
	out := make([]byte, size)
	for i := range out {
		out[i] = byte(n >> (8 * i))
	}
	return string(out)
}

// inodeText: an inode's value, by the chapter's words alone.
func inodeText(kind, mode, uid, gid, links, size int) string {
	return little(kind, 1) + little(mode, 2) + little(uid, 2) + little(gid, 2) + little(links, 2) + little(size, 4)
}

func someInode() api.Inode {
	return api.Inode{Ino: 258, Kind: api.File, Mode: 420, Uid: 1000, Gid: 100, Links: 1, Size: 300}
}

// inodeField: a field of an inode, and what it may be and may not.
type inodeField struct {
	name         string
	set          func(*api.Inode, int)
	right, wrong []int
}

func inodeFields() []inodeField {
	far := []int{1 << 31, 1 << 32, 1<<32 + 1, 1 << 40, -1, -2, -1 << 16, math.MinInt, math.MaxInt}
	with := func(l ...int) []int { return append(l, far...) }
	return []inodeField{
		{"Ino", func(i *api.Inode, n int) { i.Ino = n }, rightInos(), wrongInos()},
		{"Kind", func(i *api.Inode, n int) { i.Kind = n }, []int{1, 2, 3}, with(0, 4, 5, 255, 256, 257, 258)},
		{"Mode", func(i *api.Inode, n int) { i.Mode = n }, []int{0, 1, 255, 256, 420, 493, 510, 511}, with(512, 513, 1<<15, 1<<16, 1<<16+1)},
		{"Uid", func(i *api.Inode, n int) { i.Uid = n }, []int{0, 1, 255, 256, 1000, 65534, 65535}, with(65536, 65537, 1<<17)},
		{"Gid", func(i *api.Inode, n int) { i.Gid = n }, []int{0, 1, 255, 256, 1000, 65534, 65535}, with(65536, 65537, 1<<17)},
		{"Links", func(i *api.Inode, n int) { i.Links = n }, []int{0, 1, 2, 99, 100}, with(101, 102, 255, 256, 1<<16, 1<<16+1)},
		{"Size", func(i *api.Inode, n int) { i.Size = n }, []int{0, 1, 127, 128, 255, 256, 16383, 16384}, with(16385, 1<<16, 1<<24)},
	}
}

// someInodes: with each field at each right number, at its bounds together with all others, too.
func someInodes() []api.Inode {
	out := []api.Inode{
		someInode(),
		{Ino: 1, Kind: api.Dir, Mode: 493, Links: 2},
		{Ino: 1, Kind: api.File},
		{Ino: 4096, Kind: api.Link, Mode: 511, Uid: 65535, Gid: 65535, Links: 100, Size: 16384},
	}
	for _, f := range inodeFields() {
		for _, n := range f.right {
			i := someInode()
			f.set(&i, n)
			out = append(out, i)
		}
	}
	return out
}

// refused, makes: what Inode, Entry, Block or Orphan answered is EINVAL and no node, or this key with this value.
func refused(t *testing.T, what string, n api.Node, e api.Errno) {
	t.Helper()
	if e != api.EINVAL || n != (api.Node{}) {
		t.Errorf("%s: %#v, %d, not EINVAL", what, n, int(e))
	}
}

func makes(t *testing.T, what string, n api.Node, e api.Errno, key, value string) {
	t.Helper()
	if e != api.OK || n.Key != key || n.Value != value || n.Gone {
		t.Errorf("%s: %#v, %d, not the key %x with %x", what, n, int(e), key, value)
	}
}

// noInodeNode, noEntryNode: the node is parsed as nothing.
func noInodeNode(t *testing.T, what string, n api.Node) {
	t.Helper()
	if i, ok := ParseInode(n); ok || i != (api.Inode{}) {
		t.Errorf("ParseInode of %s %#v: %v, %v", what, n, i, ok)
	}
}

func noEntryNode(t *testing.T, what string, n api.Node) {
	t.Helper()
	if d, e, ok := ParseEntry(n); ok || d != 0 || e != (api.Entry{}) {
		t.Errorf("ParseEntry of %s %#v: %d, %v, %v", what, n, d, e, ok)
	}
}

// F6.2: inodes

func TestInodeOfTheChapter(t *testing.T) {
	n, e := Inode(api.Inode{Ino: 1, Kind: api.Dir, Mode: 493, Links: 2})
	makes(t, "Inode", n, e, "\x00\x01\x01", "\x02\xed\x01\x00\x00\x00\x00\x02\x00\x00\x00\x00\x00")
	n, e = Inode(api.Inode{Ino: 1, Kind: api.Dir, Mode: 512, Links: 2})
	refused(t, "Inode with Mode 512", n, e)
}

func TestInode(t *testing.T) {
	for _, i := range someInodes() {
		n, e := Inode(i)
		key := string([]byte{byte(i.Ino >> 8), byte(i.Ino), 1})
		makes(t, fmt.Sprint("Inode of ", i), n, e, key, inodeText(i.Kind, i.Mode, i.Uid, i.Gid, i.Links, i.Size))
	}
}

func TestInodeRefuses(t *testing.T) {
	n, e := Inode(api.Inode{})
	refused(t, "Inode of nothing", n, e)
	for _, f := range inodeFields() {
		for _, number := range f.wrong {
			i := someInode()
			f.set(&i, number)
			n, e := Inode(i)
			refused(t, fmt.Sprint("Inode with ", f.name, " ", number), n, e)
		}
	}
}

func TestParseInodeOfFieldsThatCannotBe(t *testing.T) {
	key := "\x01\x02\x01"
	for _, kind := range []int{0, 4, 5, 128, 255} {
		noInodeNode(t, "a Kind", api.Node{Key: key, Value: inodeText(kind, 420, 0, 0, 1, 0)})
	}
	for _, mode := range []int{512, 513, 1 << 15, 1<<16 - 1} {
		noInodeNode(t, "a Mode", api.Node{Key: key, Value: inodeText(1, mode, 0, 0, 1, 0)})
	}
	for _, links := range []int{101, 102, 255, 256, 1 << 15, 1<<16 - 1} {
		noInodeNode(t, "Links", api.Node{Key: key, Value: inodeText(1, 420, 0, 0, links, 0)})
	}
	for _, size := range []int{16385, 1 << 16, 1 << 24, 1 << 31, 1<<32 - 1} {
		noInodeNode(t, "a Size", api.Node{Key: key, Value: inodeText(1, 420, 0, 0, 1, size)})
	}
}

func TestParseInodeOfOtherKeys(t *testing.T) {
	value := inodeText(1, 420, 0, 0, 1, 0)
	_, ok := ParseInode(api.Node{Key: InodeKey(4096), Value: value})
	is(t, "ok with a right key", ok, true)
	for _, key := range []string{"", "\x00", "\x00\x01", InodeKey(0), InodeKey(4097), InodeKey(1<<16 - 1), InodeKey(1) + "\x00",
		EntryKey(1, "a"), EntryKey(1, ""), BlockKey(1, 0), OrphanKey(1), "\x00\x00\x01", "\x00\x01\x00", "\x00\x01\x05"} {
		noInodeNode(t, "another key", api.Node{Key: key, Value: value})
	}
}

func TestParseInodeOfOtherNodes(t *testing.T) {
	noInodeNode(t, "the zero node", api.Node{})
	n, _ := Inode(someInode())
	n.Gone = true
	noInodeNode(t, "a Gone node", n)
	noInodeNode(t, "a Gone node without a value", api.Node{Key: n.Key, Gone: true})
	for size := range 300 {
		value := strings.Repeat("\x01\x00\x00", size)[:size]
		if size != 13 {
			noInodeNode(t, "a value of another size", api.Node{Key: InodeKey(258), Value: value})
		}
	}
	n, _ = Inode(someInode())
	noInodeNode(t, "a byte more", api.Node{Key: n.Key, Value: n.Value + "\x00"})
	noInodeNode(t, "a byte less", api.Node{Key: n.Key, Value: n.Value[:12]})
	noInodeNode(t, "a byte less at the front", api.Node{Key: n.Key, Value: n.Value[1:]})
}

// F6.2: entries

func someEntries() []api.Entry {
	var out []api.Entry
	for _, name := range rightNames() {
		for _, ino := range rightInos() {
			for _, kind := range []int{api.File, api.Dir, api.Link} {
				out = append(out, api.Entry{Name: name, Ino: ino, Kind: kind})
			}
		}
	}
	return out
}

func TestEntry(t *testing.T) {
	for _, dir := range rightInos() {
		for _, x := range someEntries() {
			n, e := Entry(dir, x)
			key := string([]byte{byte(dir >> 8), byte(dir), 2}) + x.Name
			makes(t, fmt.Sprint("Entry of ", x), n, e, key, little(x.Ino, 2)+little(x.Kind, 1))
		}
	}
}

func TestEntryRefuses(t *testing.T) {
	right := api.Entry{Name: "a", Ino: 2, Kind: api.File}
	refuses := func(dir int, x api.Entry) {
		n, e := Entry(dir, x)
		refused(t, fmt.Sprintf("Entry of %d, %#v", dir, x), n, e)
	}
	for _, ino := range wrongInos() {
		refuses(ino, right)
		refuses(1, api.Entry{Name: "a", Ino: ino, Kind: api.File})
		refuses(ino, api.Entry{})
	}
	for _, name := range wrongNames() {
		refuses(1, api.Entry{Name: name, Ino: 2, Kind: api.File})
	}
	for _, kind := range []int{0, 4, 5, -1, 256, 257, 1<<32 + 1, math.MinInt, math.MaxInt} {
		refuses(1, api.Entry{Name: "a", Ino: 2, Kind: kind})
	}
	refuses(1, api.Entry{})
}

func TestParseEntryOfOtherNodes(t *testing.T) {
	noEntryNode(t, "the zero node", api.Node{})
	right := little(2, 2) + little(1, 1)
	noEntryNode(t, "a Gone node", api.Node{Key: EntryKey(1, "a"), Value: right, Gone: true})
	noEntryNode(t, "a Gone node without a value", api.Node{Key: EntryKey(1, "a"), Gone: true})
	for _, key := range []string{"", "\x00\x01", EntryKey(1, ""), EntryKey(0, "a"), EntryKey(4097, "a"), EntryKey(1<<16-1, "a"),
		InodeKey(1), BlockKey(1, 0), BlockKey(1, 'a'), OrphanKey(1), "\x00\x01\x00a", "\x00\x01\x05a"} {
		noEntryNode(t, "another key", api.Node{Key: key, Value: right})
	}
	for _, name := range wrongNames() {
		noEntryNode(t, "a name", api.Node{Key: EntryKey(1, name), Value: right})
	}
	for _, ino := range []int{0, 4097, 1 << 15, 1<<16 - 1} {
		noEntryNode(t, "an Ino", api.Node{Key: EntryKey(1, "a"), Value: little(ino, 2) + little(1, 1)})
	}
	for _, kind := range []int{0, 4, 5, 128, 255} {
		noEntryNode(t, "a Kind", api.Node{Key: EntryKey(1, "a"), Value: little(2, 2) + little(kind, 1)})
	}
	for size := range 300 {
		if size != 3 {
			noEntryNode(t, "a value of another size", api.Node{Key: EntryKey(1, "a"), Value: strings.Repeat("\x01", size)})
		}
	}
	noEntryNode(t, "a byte more", api.Node{Key: EntryKey(1, "a"), Value: right + "\x00"})
	noEntryNode(t, "a byte less", api.Node{Key: EntryKey(1, "a"), Value: right[:2]})
}

// F6.2: blocks and orphans

func TestBlock(t *testing.T) {
	for _, ino := range rightInos() {
		for _, block := range rightBlocks() {
			for _, size := range []int{1, 2, 127, 128} {
				data := make([]byte, size)
				rand.New(rand.NewSource(int64(size))).Read(data)
				n, e := Block(ino, block, data)
				key := string([]byte{byte(ino >> 8), byte(ino), 3, byte(block >> 8), byte(block)})
				makes(t, fmt.Sprint("Block of ", ino, block, size), n, e, key, string(data))
			}
		}
	}
}

func TestBlockRefuses(t *testing.T) {
	for _, data := range [][]byte{nil, {}, make([]byte, 0, 128), make([]byte, 129), make([]byte, 256), make([]byte, 257), make([]byte, 1<<16+1)} {
		n, e := Block(2, 0, data)
		refused(t, fmt.Sprint("Block of bytes ", len(data)), n, e)
	}
	for _, ino := range wrongInos() {
		n, e := Block(ino, 0, []byte("a"))
		refused(t, fmt.Sprint("Block of inode ", ino), n, e)
	}
	for _, block := range wrongBlocks() {
		n, e := Block(2, block, []byte("a"))
		refused(t, fmt.Sprint("Block of block ", block), n, e)
	}
	n, e := Block(0, -1, nil)
	refused(t, "Block of nothing right", n, e)
}

func TestBlockKeepsNothingOfTheCallers(t *testing.T) {
	room := bytes.Repeat([]byte("a"), 200)
	n, _ := Block(2, 0, room[:100])
	is(t, "what was handed in", string(room), strings.Repeat("a", 200))
	clear(room)
	is(t, "the value behind what the caller wrote", n.Value, strings.Repeat("a", 100))
}

func TestOrphan(t *testing.T) {
	for ino := 1; ino <= 4096; ino++ {
		n, e := Orphan(ino)
		makes(t, fmt.Sprint("Orphan of ", ino), n, e, string([]byte{0, 0, 4, byte(ino >> 8), byte(ino)}), "")
	}
	for _, ino := range wrongInos() {
		n, e := Orphan(ino)
		refused(t, fmt.Sprint("Orphan of ", ino), n, e)
	}
}

// P601

func TestInodeAndBack(t *testing.T) {
	for _, i := range someInodes() {
		n, _ := Inode(i)
		got, ok := ParseInode(n)
		is(t, "ok", ok, true)
		is(t, "Inode and back", got, i)
		noEntryNode(t, "an inode's node", n)
	}
	chance := rand.New(rand.NewSource(3))
	for range 20000 {
		i := api.Inode{Ino: 1 + chance.Intn(4096), Kind: 1 + chance.Intn(3), Mode: chance.Intn(512), Uid: chance.Intn(65536),
			Gid: chance.Intn(65536), Links: chance.Intn(101), Size: chance.Intn(16385)}
		n, e := Inode(i)
		got, ok := ParseInode(n)
		is(t, "errno", e, api.OK)
		is(t, "ok", ok, true)
		is(t, "Inode and back", got, i)
	}
}

func TestEntryAndBack(t *testing.T) {
	for _, dir := range rightInos() {
		for _, x := range someEntries() {
			n, _ := Entry(dir, x)
			d, got, ok := ParseEntry(n)
			is(t, "ok", ok, true)
			is(t, "the directory", d, dir)
			is(t, "Entry and back", got, x)
			noInodeNode(t, "an entry's node", n)
		}
	}
}

func TestBlocksAndOrphansAndBack(t *testing.T) {
	for _, ino := range rightInos() {
		o, _ := Orphan(ino)
		tells(t, o.Key, 4, ino, "", 0)
		noInodeNode(t, "an orphan's node", o)
		noEntryNode(t, "an orphan's node", o)
		for _, block := range rightBlocks() {
			for _, size := range []int{3, 13} {
				b, _ := Block(ino, block, bytes.Repeat([]byte{1}, size))
				tells(t, b.Key, 3, ino, "", block)
				noInodeNode(t, "a block's node", b)
				noEntryNode(t, "a block's node", b)
			}
		}
	}
}

// What is parsed is what is made again: nothing is parsed that no call makes.
func TestParsedNodesAreMade(t *testing.T) {
	chance := rand.New(rand.NewSource(4))
	var inodes, entries int
	for range 200000 {
		n := api.Node{Key: InodeKey(1 + chance.Intn(4200)), Value: inodeText(chance.Intn(5), chance.Intn(600), chance.Intn(65536), 0, chance.Intn(130), chance.Intn(20000))}
		if i, ok := ParseInode(n); ok {
			inodes++
			again, e := Inode(i)
			is(t, "errno", e, api.OK)
			is(t, "the node again", again, n)
		}
		n = api.Node{Key: EntryKey(1+chance.Intn(4200), []string{"a", ".", "b/", "c"}[chance.Intn(4)]), Value: little(chance.Intn(4200), 2) + little(chance.Intn(5), 1)}
		if d, x, ok := ParseEntry(n); ok {
			entries++
			again, e := Entry(d, x)
			is(t, "errno", e, api.OK)
			is(t, "the node again", again, n)
		}
	}
	is(t, "some were parsed", inodes > 1000 && entries > 1000, true)
}
