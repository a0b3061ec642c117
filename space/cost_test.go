package space

import (
	"fmt"
	"math"
	"math/rand"
	"slices"
	"strings"
	"testing"
	"unsafe"

	"pumice/api"
	"pumice/node"
)

// F16.2

func TestNode(t *testing.T) {
	is(t, "the chapter's", Node("ab", "c"), 69)
	is(t, "nothing", Node("", ""), 64)
	is(t, "a key", Node("a", ""), 66)
	is(t, "a value", Node("", "a"), 65)
	is(t, "the longest", Node(strings.Repeat("k", api.MaxKey), strings.Repeat("v", api.MaxValue)), 448)
	is(t, "longer than any", Node(strings.Repeat("k", 1000), strings.Repeat("v", 5000)), 7064)
	is(t, "bytes, not runes", Node("\u00e9\u20ac", "\u20ac"), 77)
	for key := range 2*api.MaxKey + 1 {
		for value := range api.MaxValue + 2 {
			got := Node(strings.Repeat("\x00", key), strings.Repeat("\xff", value))
			is(t, fmt.Sprint("Node of sizes ", key, value), got, 64+key+key+value)
		}
	}
}

func TestNodes(t *testing.T) {
	is(t, "nil", Nodes(nil), 0)
	is(t, "none", Nodes([]api.Node{}), 0)
	is(t, "one", Nodes([]api.Node{{Key: "ab", Value: "c"}}), 69)
	is(t, "an empty one", Nodes([]api.Node{{}}), 64)
	is(t, "Gone alone", Nodes([]api.Node{{Key: "ab", Gone: true}}), 0)
	is(t, "Gone with a value", Nodes([]api.Node{{Key: "ab", Value: "c", Gone: true}}), 0)
	is(t, "Gone among others", Nodes([]api.Node{{Key: "x", Gone: true}, {Key: "a", Value: "1"}, {Key: "b", Gone: true}, {Key: "c", Value: "33"}, {Gone: true}}), 67+68)
	// It is a sum over the list, not over its keys.
	is(t, "one key twice", Nodes([]api.Node{{Key: "a", Value: "1"}, {Key: "a", Value: "1"}}), 134)
	is(t, "a key and Gone", Nodes([]api.Node{{Key: "a", Value: "1"}, {Key: "a", Gone: true}}), 67)
	is(t, "not in order", Nodes([]api.Node{{Key: "b"}, {Key: "a", Value: "1"}}), 133)
}

// long: a text of so many bytes, of which only the first one is there: it may be measured, not read.
func long(size int) string {
	head := struct {
		first *byte
		size  int
	}{new(byte), size}
	return *(*string)(unsafe.Pointer(&head))
}

func TestNodesAtTheTop(t *testing.T) {
	const top = 1 << 62
	half := api.Node{Value: long(1<<61 - 64)} // costs 2^61
	for _, c := range []struct {
		what string
		l    []api.Node
		want int
	}{
		{"one below", []api.Node{{Value: long(top - 65)}}, top - 1},
		{"at it", []api.Node{{Value: long(top - 64)}}, top},
		{"one beyond", []api.Node{{Value: long(top - 63)}}, top},
		{"at it by a key", []api.Node{{Key: long(1<<61 - 32)}}, top},
		{"beyond it by a key", []api.Node{{Key: long(1<<61 - 31)}}, top},
		{"one below by two", []api.Node{half, {Value: long(1<<61 - 65)}}, top - 1},
		{"at it by two", []api.Node{half, half}, top},
		{"one beyond by two", []api.Node{half, {Value: long(1<<61 - 63)}}, top},
		{"far beyond", []api.Node{half, half, half, half, half, {Key: "a"}}, top},
		{"small ones on it", []api.Node{half, half, {}, {Key: "a", Value: "1"}}, top},
		{"small ones ahead", []api.Node{{}, {Key: "a", Value: "1"}, half, half}, top},
		{"Gone ones beside", []api.Node{half, {Key: "a", Value: long(top), Gone: true}}, 1 << 61},
		{"no greater text", []api.Node{{Value: long(math.MaxInt)}}, top},
		{"no greater texts", []api.Node{{Key: long(math.MaxInt), Value: long(math.MaxInt)}, {Key: long(top)}, half}, top},
	} {
		is(t, c.what, Nodes(c.l), c.want)
	}
}

// TestNodeOfLongTexts: no sum leaves the range of int.
func TestNodeOfLongTexts(t *testing.T) {
	is(t, "a value of 2^62 bytes", Node("a", long(1<<62)), 1<<62+66)
	is(t, "a key of 2^61 bytes", Node(long(1<<61), ""), 1<<62+64)
	is(t, "the greatest that there is", Node("", long(math.MaxInt-64)), math.MaxInt)
	is(t, "one beyond", Node("", long(math.MaxInt-63)), math.MaxInt)
	is(t, "far beyond", Node(long(math.MaxInt), long(math.MaxInt)), math.MaxInt)
	is(t, "a name", Entry(long(1<<62)), math.MaxInt)
	is(t, "a shorter name", Entry(long(1<<61)), 1<<62+73)
}

func TestInode(t *testing.T) {
	is(t, "Inode", Inode(), 83)
	for _, i := range []api.Inode{
		{Ino: 1, Kind: api.Dir},
		{Ino: api.MaxInodes, Kind: api.Link, Mode: 511, Uid: 65535, Gid: 65535, Links: api.MaxLinks, Size: api.MaxFile},
		{Ino: 300, Kind: api.File, Mode: 420, Uid: 7, Gid: 9, Links: 1, Size: 129},
	} {
		n := must(t)(node.Inode(i))
		is(t, fmt.Sprintf("Inode of %+v", i), Inode(), Node(n.Key, n.Value))
	}
}

func TestEntry(t *testing.T) {
	is(t, "the chapter's", Entry("a"), 75)
	is(t, "an empty name", Entry(""), 73)
	is(t, "the longest name", Entry(strings.Repeat("n", api.MaxName)), 121)
	is(t, "a longer one", Entry(strings.Repeat("n", 1000)), 2073)
	is(t, "names that can't be", Entry("a/\x00"), 79)
	for size := 1; size <= api.MaxName; size++ {
		name := strings.Repeat("\xff", size)
		for _, dir := range []int{1, 256, api.MaxInodes} {
			n := must(t)(node.Entry(dir, api.Entry{Name: name, Ino: api.MaxInodes, Kind: api.Link}))
			is(t, fmt.Sprint("Entry of bytes ", size), Entry(name), Node(n.Key, n.Value))
		}
	}
}

func TestFile(t *testing.T) {
	for _, c := range []struct{ size, want int }{
		{-1, 0}, {-128, 0}, {math.MinInt, 0}, {math.MinInt + 1, 0}, {0, 0},
		{1, 75}, {2, 76}, {127, 201}, {128, 202}, {129, 277}, {130, 278}, {255, 403}, {256, 404}, {257, 479},
		{16255, 25653}, {16256, 25654}, {16257, 25729}, {16383, 25855}, {16384, 25856},
		{16385, 25856}, {16512, 25856}, {32768, 25856}, {1 << 32, 25856}, {math.MaxInt, 25856}, {math.MaxInt - 1, 25856},
	} {
		is(t, fmt.Sprint("File of ", c.size), File(c.size), c.want)
	}
}

// blocks: all nodes of a file of so many bytes.
func blocks(t *testing.T, size int) []api.Node {
	t.Helper()
	var l []api.Node
	for at := 0; at < size; at += api.Unit {
		l = append(l, must(t)(node.Block(api.MaxInodes, at/api.Unit, make([]byte, min(api.Unit, size-at)))))
	}
	return l
}

// P1603

func TestFileIsItsBlocks(t *testing.T) {
	for size := range api.MaxFile + 1 {
		if size%api.Unit <= 2 || size%api.Unit == api.Unit-1 || size < 3*api.Unit {
			is(t, fmt.Sprint("File of ", size), File(size), Nodes(blocks(t, size)))
		}
	}
}

func TestFilesRise(t *testing.T) {
	for size := -3; size < api.MaxFile+3; size++ {
		if File(size) > File(size+1) {
			t.Errorf("a file of %d bytes costs %d, one of %d bytes %d", size, File(size), size+1, File(size+1))
		}
	}
}

func TestListsAreSums(t *testing.T) {
	chance := rand.New(rand.NewSource(1))
	for range 2000 {
		l := someNodes(chance, chance.Intn(12))
		want := 0
		for _, n := range l {
			if !n.Gone {
				want += Node(n.Key, n.Value)
			}
		}
		is(t, fmt.Sprintf("Nodes of %+v", l), Nodes(l), want)
		cut := chance.Intn(len(l) + 1)
		is(t, "its parts", Nodes(l[:cut])+Nodes(l[cut:]), want)
		chance.Shuffle(len(l), func(i, j int) { l[i], l[j] = l[j], l[i] })
		is(t, "in another order", Nodes(l), want)
	}
}

// someNodes: of few keys, in any order, some of them Gone.
func someNodes(chance *rand.Rand, size int) []api.Node {
	l := make([]api.Node, 0, size+3)
	for range size {
		n := api.Node{Key: strings.Repeat("k", chance.Intn(3)) + string(byte('a'+chance.Intn(4))), Gone: chance.Intn(4) == 0}
		if !n.Gone || chance.Intn(4) == 0 {
			n.Value = strings.Repeat("v", chance.Intn(40))
		}
		l = append(l, n)
	}
	return l
}

// Rule 4

// unchanged: what calls with these lists leave of them, their spare room too.
func unchanged(t *testing.T, what string, call func(), lists ...[]api.Node) {
	t.Helper()
	var were [][]api.Node
	for _, l := range lists {
		were = append(were, slices.Clone(l[:cap(l)]))
	}
	call()
	for i, l := range lists {
		if !slices.Equal(l[:cap(l)], were[i]) {
			t.Errorf("%s: the list %d is %+v, was %+v", what, i, l[:cap(l)], were[i])
		}
	}
}

func TestListsStay(t *testing.T) {
	chance := rand.New(rand.NewSource(2))
	for range 500 {
		l, g := someNodes(chance, chance.Intn(9)), someNodes(chance, chance.Intn(9))
		for i := len(l); i < cap(l); i++ {
			l[:cap(l)][i] = api.Node{Key: "spare", Value: "room"}
		}
		unchanged(t, "Nodes", func() { Nodes(l) }, l)
		unchanged(t, "Change", func() { Change(l, g) }, l, g)
		unchanged(t, "Room", func() { Room(l, g, chance.Intn(500)) }, l, g)
		unchanged(t, "Change with itself", func() { Change(l, l) }, l)
	}
}
