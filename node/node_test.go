package node

import (
	"bytes"
	"fmt"
	"math"
	"math/rand"
	"strings"
	"testing"

	"pumice/api"
	"pumice/bits"
)

// sample: n bytes that look like chance, the same ones for the same n.
func sample(n int) string {
	b := make([]byte, n)
	rand.New(rand.NewSource(int64(n))).Read(b)
	return string(b)
}

// packedText: a node as bytes, by the chapter's words alone.
func packedText(tag byte, key, value string) []byte {
	return []byte(string([]byte{tag, byte(len(key))}) + key + little(len(value), 2) + value)
}

func rightNodes() []api.Node {
	out := []api.Node{{Key: "k", Value: "value"}, {Key: "\x00\x01\x01", Value: "\x02\xed"}, {Key: "\x03"}, {Key: "\xff\xff", Gone: true}}
	for _, key := range []int{1, 2, 3, 27, 63, 64} {
		for _, value := range []int{0, 1, 2, 13, 128, 254, 255, 256} {
			out = append(out, api.Node{Key: sample(key), Value: sample(value)})
		}
		out = append(out, api.Node{Key: sample(key), Gone: true})
	}
	return out
}

func wrongNodes() []api.Node {
	out := []api.Node{{}, {Gone: true}, {Value: "v"}, {Value: "v", Gone: true}}
	for _, key := range []int{0, 65, 66, 255, 256, 257, 1 << 16, 1<<16 + 1} {
		for _, value := range []int{0, 1, 256, 257} {
			out = append(out, api.Node{Key: sample(key), Value: sample(value)})
		}
		out = append(out, api.Node{Key: sample(key), Gone: true})
	}
	for _, value := range []int{257, 258, 511, 512, 1 << 16, 1<<16 + 1} {
		out = append(out, api.Node{Key: "k", Value: sample(value)}, api.Node{Key: sample(64), Value: sample(value)})
	}
	for _, value := range []int{1, 2, 255, 256, 257, 1 << 16} {
		out = append(out, api.Node{Key: "k", Value: sample(value), Gone: true}, api.Node{Key: sample(64), Value: sample(value), Gone: true})
	}
	return out
}

func tag(n api.Node) byte {
	if n.Gone {
		return 2
	}
	return 1
}

// about: a node in a few words.
func about(n api.Node) string {
	return fmt.Sprintf("a node with a key of %d bytes, a value of %d, Gone %v", len(n.Key), len(n.Value), n.Gone)
}

func noNode(t *testing.T, what string, b []byte) {
	t.Helper()
	if n, ok := Unpack(b); ok || n != (api.Node{}) {
		t.Errorf("Unpack of %s (%d bytes): %#v, %v", what, len(b), n, ok)
	}
}

func noMark(t *testing.T, what string, b []byte) {
	t.Helper()
	if g, c, ok := ParseMark(b); ok || g != 0 || c != 0 {
		t.Errorf("ParseMark of %s (%d bytes): %d, %d, %v", what, len(b), g, c, ok)
	}
}

// F6.3: nodes

func TestRight(t *testing.T) {
	for _, n := range rightNodes() {
		is(t, "Right of "+about(n), Right(n), true)
	}
	for _, n := range wrongNodes() {
		is(t, "Right of "+about(n), Right(n), false)
	}
}

func TestRightOfEachSize(t *testing.T) {
	for key := range 130 {
		is(t, fmt.Sprint("Right with a key of ", key), Right(api.Node{Key: sample(key)}), 1 <= key && key <= 64)
		is(t, fmt.Sprint("Right of Gone with a key of ", key), Right(api.Node{Key: sample(key), Gone: true}), 1 <= key && key <= 64)
	}
	for value := range 600 {
		is(t, fmt.Sprint("Right with a value of ", value), Right(api.Node{Key: "k", Value: sample(value)}), value <= 256)
		is(t, fmt.Sprint("Right of Gone with a value of ", value), Right(api.Node{Key: "k", Value: sample(value), Gone: true}), value == 0)
	}
}

func TestPackOfTheChapter(t *testing.T) {
	n, _ := Inode(api.Inode{Ino: 1, Kind: api.Dir, Mode: 493, Links: 2})
	b, e := Pack(n)
	is(t, "errno", e, api.OK)
	is(t, "first bytes", string(b[:9]), "\x01\x03\x00\x01\x01\x0d\x00\x02\xed")
	is(t, "all bytes", string(b), "\x01\x03\x00\x01\x01\x0d\x00"+n.Value)
}

func TestPack(t *testing.T) {
	for _, n := range rightNodes() {
		b, e := Pack(n)
		if want := packedText(tag(n), n.Key, n.Value); e != api.OK || !bytes.Equal(b, want) {
			t.Errorf("Pack of %s: % x, %d, not % x", about(n), b, int(e), want)
		}
	}
}

func TestPackRefuses(t *testing.T) {
	for _, n := range wrongNodes() {
		if b, e := Pack(n); e != api.EINVAL || len(b) != 0 {
			t.Errorf("Pack of %s: %d bytes, %d", about(n), len(b), int(e))
		}
	}
}

func TestPackedIsNewMemory(t *testing.T) {
	n := api.Node{Key: "key", Value: "value"}
	one, _ := Pack(n)
	clear(one[:cap(one)])
	two, _ := Pack(n)
	is(t, "Pack behind what a caller wrote", string(two), string(packedText(1, "key", "value")))
	mark, _ := Mark(5, 2)
	clear(mark[:cap(mark)])
	again, _ := Mark(5, 2)
	is(t, "Mark behind what a caller wrote", string(again), "\x03\x05\x00\x00\x00\x00\x00\x00\x00\x02")
}

func TestUnpackKeepsNothingOfTheCallers(t *testing.T) {
	b := packedText(1, "key", "value")
	room := append(bytes.Clone(b), 0xa5, 0xa5)
	n, ok := Unpack(room[:len(b)])
	is(t, "what was handed in", string(room), string(b)+"\xa5\xa5")
	clear(room)
	is(t, "ok", ok, true)
	is(t, "the node behind what the caller wrote", n, api.Node{Key: "key", Value: "value"})
}

func TestUnpackOfNodesThatAreNotRight(t *testing.T) {
	noNode(t, "no key", packedText(1, "", ""))
	noNode(t, "no key, Gone", packedText(2, "", ""))
	noNode(t, "no key with a value", packedText(1, "", "value"))
	for _, key := range []int{65, 66, 128, 255} {
		noNode(t, "a key that is too long", packedText(1, sample(key), ""))
		noNode(t, "a key that is too long, Gone", packedText(2, sample(key), ""))
		noNode(t, "a key that is too long with a value", packedText(1, sample(key), sample(13)))
	}
	for _, value := range []int{257, 258, 319, 320, 321, 512, 1 << 15, 1<<16 - 1} {
		noNode(t, "a value that is too long", packedText(1, "k", sample(value)))
		noNode(t, "a value that is too long", packedText(1, sample(64), sample(value)))
	}
	for _, value := range []int{1, 2, 255, 256, 257} {
		noNode(t, "Gone with a value", packedText(2, "k", sample(value)))
	}
}

func TestUnpackOfOtherTags(t *testing.T) {
	for x := range 256 {
		b := packedText(byte(x), "key", "")
		n, ok := Unpack(b)
		is(t, fmt.Sprint("ok with the first byte ", x), ok, x == 1 || x == 2)
		is(t, fmt.Sprint("Gone with the first byte ", x), n.Gone, x == 2)
		if x != 1 {
			noNode(t, "another first byte with a value", packedText(byte(x), "key", "value"))
		}
	}
}

func TestUnpackOfBytesMoreOrLess(t *testing.T) {
	for _, n := range rightNodes() {
		b := packedText(tag(n), n.Key, n.Value)
		for size := range b {
			// The rest stands in the spare room: it is no part of what is handed in.
			noNode(t, "a part of a node", b[:size])
			noNode(t, "a part of a node without spare room", b[:size:size])
		}
		for _, x := range []byte{0, 1, 2, 0xff} {
			noNode(t, "a byte more", append(bytes.Clone(b), x))
			if ahead := append([]byte{x}, b...); !isPacked(ahead) {
				noNode(t, "a byte more ahead", ahead)
			}
		}
		noNode(t, "two nodes", append(bytes.Clone(b), b...))
	}
}

func TestUnpackOfSizesThatLie(t *testing.T) {
	for size := range 256 {
		b := packedText(1, "key", "value")
		b[1] = byte(size)
		if size != 3 {
			noNode(t, "another size of the key", b)
		}
		b = packedText(1, "key", "value")
		b[5] = byte(size)
		if size != 5 {
			noNode(t, "another size of the value", b)
		}
		b = packedText(1, "key", "value")
		b[6] = byte(size)
		if size != 0 {
			noNode(t, "another higher byte of the size of the value", b)
		}
	}
}

// isPacked: are these the bytes of a right node, by the chapter's words alone?
func isPacked(b []byte) bool {
	if len(b) < 4 || b[0] != 1 && b[0] != 2 || b[1] < 1 || b[1] > 64 || len(b) < 4+int(b[1]) {
		return false
	}
	rest := b[2+int(b[1]):]
	size := int(rest[0]) + 256*int(rest[1])
	return len(rest) == 2+size && size <= 256 && (b[0] == 1 || size == 0)
}

func TestUnpackOfChance(t *testing.T) {
	noNode(t, "nil", nil)
	noNode(t, "an empty list", []byte{})
	noNode(t, "a long list", make([]byte, 1<<20))
	noNode(t, "a long list of ones", bytes.Repeat([]byte{1}, 1<<20))
	chance := rand.New(rand.NewSource(5))
	nodes := 0
	for range 300000 {
		b := make([]byte, chance.Intn(14))
		for i := range b {
			b[i] = byte(chance.Intn(5))
		}
		n, ok := Unpack(b)
		is(t, fmt.Sprintf("ok of % x", b), ok, isPacked(b))
		if ok {
			nodes++
			again, e := Pack(n)
			is(t, "errno", e, api.OK)
			is(t, "the bytes again", string(again), string(b))
		} else {
			is(t, "no node", n, api.Node{})
		}
	}
	is(t, "some were nodes", nodes > 100, true)
}

func TestSize(t *testing.T) {
	for _, n := range rightNodes() {
		b, _ := Pack(n)
		frame, e := bits.Frame(b)
		is(t, "errno", e, api.OK)
		is(t, "Size of "+about(n), Size(n), len(frame))
		is(t, "Size by the chapter of "+about(n), Size(n), 6+4+len(n.Key)+len(n.Value))
	}
	for _, n := range wrongNodes() {
		is(t, "Size of "+about(n), Size(n), 0)
	}
	is(t, "Size of the longest node", Size(api.Node{Key: sample(64), Value: sample(256)}), 330)
	is(t, "Size of the shortest one", Size(api.Node{Key: "k", Gone: true}), 11)
}

// F6.3: marks

func rightGroups() []uint64 {
	return []uint64{0, 1, 5, 255, 256, 1 << 31, 1 << 32, 0x0102030405060708, 1 << 63, math.MaxUint64 - 1, math.MaxUint64}
}

func wrongCounts() []int {
	return []int{0, -1, 17, 18, 255, 256, 257, 1<<16 + 1, 1<<32 + 1, -255, math.MinInt, math.MinInt + 1, math.MaxInt}
}

func markText(group uint64, count byte) []byte {
	return []byte("\x03" + little(int(group), 8) + string([]byte{count}))
}

func TestMark(t *testing.T) {
	b, e := Mark(5, 2)
	is(t, "errno", e, api.OK)
	is(t, "the chapter's mark", string(b), "\x03\x05\x00\x00\x00\x00\x00\x00\x00\x02")
	b, _ = Mark(0x0102030405060708, 16)
	is(t, "a mark", string(b), "\x03\x08\x07\x06\x05\x04\x03\x02\x01\x10")
	for _, group := range rightGroups() {
		for count := 1; count <= 16; count++ {
			b, e := Mark(group, count)
			is(t, "errno", e, api.OK)
			is(t, fmt.Sprint("Mark of ", group, count), string(b), string(markText(group, byte(count))))
		}
	}
}

func TestMarkRefuses(t *testing.T) {
	for _, group := range rightGroups() {
		for _, count := range wrongCounts() {
			if b, e := Mark(group, count); e != api.EINVAL || len(b) != 0 {
				t.Errorf("Mark(%d, %d): % x, %d", group, count, b, int(e))
			}
		}
	}
}

func TestParseMarkOfBytesThatNoCallMakes(t *testing.T) {
	noMark(t, "nil", nil)
	noMark(t, "an empty list", []byte{})
	for size := range 400 {
		noMark(t, "noughts", make([]byte, size))
		noMark(t, "erased bytes", bytes.Repeat([]byte{0xff}, size))
		if size != 10 {
			noMark(t, "threes of another size", bytes.Repeat([]byte{3}, size))
		}
	}
	noMark(t, "a long list", bytes.Repeat([]byte{3}, 1<<20))
	for count := range 256 {
		if count < 1 || count > 16 {
			noMark(t, "a count", markText(5, byte(count)))
		}
	}
	for x := range 256 {
		b := markText(5, 2)
		b[0] = byte(x)
		if x != 3 {
			noMark(t, "another first byte", b)
		}
	}
	for _, group := range rightGroups() {
		b := markText(group, 3)
		for size := range b {
			noMark(t, "a part of a mark", b[:size])
		}
		noMark(t, "a byte more", append(bytes.Clone(b), 3))
		noMark(t, "a byte more ahead", append([]byte{3}, b...))
	}
}

func TestParsingChangesNothing(t *testing.T) {
	room := append(markText(5, 2), packedText(1, "key", "value")...)
	was := bytes.Clone(room)
	for _, b := range [][]byte{room[:10], room[10:], room, room[:9], room[9:]} {
		ParseMark(b)
		Unpack(b)
	}
	is(t, "what was handed in", string(room), string(was))
}

// P601

func TestPackAndBack(t *testing.T) {
	for _, n := range rightNodes() {
		b, _ := Pack(n)
		got, ok := Unpack(b)
		is(t, "ok", ok, true)
		is(t, "Pack and back", got, n)
	}
	for key := 1; key <= 64; key++ {
		for value := 0; value <= 256; value++ {
			n := api.Node{Key: strings.Repeat("k", key), Value: strings.Repeat("v", value)}
			b, _ := Pack(n)
			got, ok := Unpack(b)
			is(t, "Pack and back of "+about(n), ok && got == n, true)
		}
	}
}

func TestThingsArePackedAndComeBack(t *testing.T) {
	var nodes []api.Node
	lay := func(n api.Node, e api.Errno) {
		is(t, "errno", e, api.OK)
		nodes = append(nodes, n)
	}
	for _, i := range someInodes() {
		lay(Inode(i))
	}
	for _, x := range someEntries() {
		lay(Entry(4096, x))
	}
	for _, block := range rightBlocks() {
		lay(Block(4096, block, []byte(sample(128))))
		lay(Orphan(block + 1))
	}
	for _, n := range nodes {
		b, e := Pack(n)
		got, ok := Unpack(b)
		is(t, "Pack", e, api.OK)
		is(t, "Pack and back", ok && got == n, true)
	}
}

func TestMarkAndBack(t *testing.T) {
	for _, group := range rightGroups() {
		for count := 1; count <= 16; count++ {
			b, _ := Mark(group, count)
			g, c, ok := ParseMark(b)
			is(t, "ok", ok, true)
			is(t, "the group", g, group)
			is(t, "the count", c, count)
		}
	}
}

// P603

func TestNoBytesAreBothANodesAndAMarks(t *testing.T) {
	for _, n := range rightNodes() {
		b, _ := Pack(n)
		noMark(t, "a node's bytes", b)
	}
	// Nodes that have just as many bytes as a mark.
	for key := 1; key <= 6; key++ {
		b, _ := Pack(api.Node{Key: strings.Repeat("\x03", key), Value: strings.Repeat("\x01", 6-key)})
		is(t, "bytes", len(b), 10)
		noMark(t, "a node's bytes", b)
	}
	b, _ := Pack(api.Node{Key: "\x03\x03\x03\x03\x03\x03", Gone: true})
	noMark(t, "a Gone node's bytes", b)
	for _, group := range rightGroups() {
		for count := 1; count <= 16; count++ {
			b, _ := Mark(group, count)
			noNode(t, "a mark's bytes", b)
		}
	}
	// Marks whose other bytes would be a node's.
	for size := range 256 {
		b, _ := Mark(uint64(size), 1)
		noNode(t, "a mark's bytes", b)
	}
}
