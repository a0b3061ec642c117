package node

import (
	"fmt"
	"math"
	"math/rand"
	"slices"
	"strings"
	"testing"

	"pumice/api"
	"pumice/names"
)

func is[T comparable](t *testing.T, what string, got, want T) {
	t.Helper()
	if got != want {
		t.Errorf("%s: %#v, not %#v", what, got, want)
	}
}

// The lists of right and wrong numbers and names are written by hand, so that they do not come out of what is tested.

func rightInos() []int { return []int{1, 2, 3, 255, 256, 257, 258, 4095, 4096} }
func wrongInos() []int {
	return []int{0, -1, 4097, 4098, 1 << 15, 1<<16 - 1, 1 << 16, 1<<16 + 1, 1<<32 + 1, -1<<16 + 1, math.MinInt, math.MinInt + 1, math.MaxInt}
}

func rightBlocks() []int { return []int{0, 1, 2, 63, 64, 126, 127} }
func wrongBlocks() []int {
	return []int{-1, 128, 129, 255, 256, 1 << 15, 1<<16 - 1, 1 << 16, 1<<16 + 1, 1 << 32, math.MinInt, math.MaxInt}
}

func rightNames() []string {
	return []string{"a", "b", "aa", "ab", "...", ".a", "a.", "..a", "\x01", "\xff", "\xff\xff", " ", "\xc3\xa9",
		strings.Repeat("a", 23), strings.Repeat("a", 24), strings.Repeat("\xff", 24)}
}
func wrongNames() []string {
	return []string{"", ".", "..", "/", "a/b", "/a", "a/", "\x00", "a\x00", "\x00a", "a\x00b",
		strings.Repeat("a", 25), strings.Repeat("\xff", 25), strings.Repeat("a", 61), strings.Repeat("a", 1000), strings.Repeat(".", 25)}
}

// tells: what Kind answers of the key.
func tells(t *testing.T, key string, kind, ino int, name string, block int) {
	t.Helper()
	k, i, n, b := Kind(key)
	if k != kind || i != ino || n != name || b != block {
		t.Errorf("Kind of %x: %d, %d, %q, %d, not %d, %d, %q, %d", key, k, i, n, b, kind, ino, name, block)
	}
}

func noKey(t *testing.T, key string) {
	t.Helper()
	tells(t, key, 0, 0, "", 0)
}

// F6.1

func TestKeysOfTheChapter(t *testing.T) {
	is(t, "InodeKey(1)", InodeKey(1), "\x00\x01\x01")
	is(t, "EntryKey(258, a)", EntryKey(258, "a"), "\x01\x02\x02a")
	is(t, "BlockKey(2, 3)", BlockKey(2, 3), "\x00\x02\x03\x00\x03")
	is(t, "OrphanKey(7)", OrphanKey(7), "\x00\x00\x04\x00\x07")
}

func TestKeysOfAnyArguments(t *testing.T) {
	for _, c := range []struct {
		n    int
		want string
	}{
		{0, "\x00\x00"}, {1, "\x00\x01"}, {255, "\x00\xff"}, {256, "\x01\x00"}, {258, "\x01\x02"},
		{4096, "\x10\x00"}, {4097, "\x10\x01"}, {0x1234, "\x12\x34"}, {1<<16 - 1, "\xff\xff"}, {1 << 16, "\x00\x00"},
		{1<<16 + 0x1234, "\x12\x34"}, {1 << 32, "\x00\x00"}, {1<<40 + 0x89ab, "\x89\xab"},
		{-1, "\xff\xff"}, {-2, "\xff\xfe"}, {-256, "\xff\x00"}, {-1 << 16, "\x00\x00"},
		{math.MaxInt, "\xff\xff"}, {math.MinInt, "\x00\x00"}, {math.MinInt + 0x1234, "\x12\x34"},
	} {
		is(t, fmt.Sprint("InodeKey of ", c.n), InodeKey(c.n), c.want+"\x01")
		is(t, fmt.Sprint("OrphanKey of ", c.n), OrphanKey(c.n), "\x00\x00\x04"+c.want)
		is(t, fmt.Sprint("BlockKey of inode ", c.n), BlockKey(c.n, 3), c.want+"\x03\x00\x03")
		is(t, fmt.Sprint("BlockKey of block ", c.n), BlockKey(258, c.n), "\x01\x02\x03"+c.want)
		for _, name := range append(rightNames(), wrongNames()...) {
			is(t, fmt.Sprint("EntryKey of ", c.n), EntryKey(c.n, name), c.want+"\x02"+name)
		}
		for _, kind := range []int{0, 1, 2, 3, 4, 5, 127, 254} {
			from, to := From(c.n, kind)
			is(t, fmt.Sprint("From of ", c.n, kind), from, c.want+string([]byte{byte(kind)}))
			is(t, fmt.Sprint("From's end of ", c.n, kind), to, c.want+string([]byte{byte(kind + 1)}))
		}
	}
	long := strings.Repeat("x", 1<<20)
	is(t, "EntryKey of a long name", EntryKey(1, long) == "\x00\x01\x02"+long, true)
}

func TestFromOfAnyKind(t *testing.T) {
	for _, c := range []struct {
		kind     int
		from, to byte
	}{
		{255, 255, 0}, {256, 0, 1}, {257, 1, 2}, {1<<16 + 3, 3, 4}, {1<<32 + 2, 2, 3},
		{-1, 255, 0}, {-2, 254, 255}, {-255, 1, 2}, {math.MaxInt, 255, 0}, {math.MinInt, 0, 1}, {math.MinInt + 3, 3, 4},
	} {
		from, to := From(258, c.kind)
		is(t, fmt.Sprint("From of ", c.kind), from, "\x01\x02"+string([]byte{c.from}))
		is(t, fmt.Sprint("From's end of ", c.kind), to, "\x01\x02"+string([]byte{c.to}))
	}
}

func TestKind(t *testing.T) {
	tells(t, "\x00\x01\x01", 1, 1, "", 0)
	tells(t, "\x01\x02\x02a", 2, 258, "a", 0)
	tells(t, "\x00\x02\x03\x00\x03", 3, 2, "", 3)
	tells(t, "\x00\x00\x04\x00\x07", 4, 7, "", 0)
	for ino := 1; ino <= 4096; ino++ {
		tells(t, InodeKey(ino), 1, ino, "", 0)
		tells(t, OrphanKey(ino), 4, ino, "", 0)
		for _, name := range rightNames() {
			tells(t, EntryKey(ino, name), 2, ino, name, 0)
		}
		for _, block := range rightBlocks() {
			tells(t, BlockKey(ino, block), 3, ino, "", block)
		}
	}
	for block := range 128 {
		tells(t, BlockKey(9, block), 3, 9, "", block)
	}
}

func TestKindOfNumbersThatCannotBe(t *testing.T) {
	for _, n := range []int{0, 4097, 4098, 8192, 1 << 15, 1<<16 - 1} {
		noKey(t, InodeKey(n))
		noKey(t, OrphanKey(n))
		noKey(t, EntryKey(n, "a"))
		noKey(t, BlockKey(n, 0))
		noKey(t, BlockKey(n, 128))
	}
	for _, block := range []int{128, 129, 255, 256, 1 << 15, 1<<16 - 1} {
		noKey(t, BlockKey(1, block))
		noKey(t, BlockKey(4096, block))
	}
}

func TestKindOfNamesThatCannotBe(t *testing.T) {
	for _, name := range wrongNames() {
		noKey(t, EntryKey(1, name))
		noKey(t, EntryKey(4096, name))
	}
}

func TestKindOfOtherKinds(t *testing.T) {
	for _, head := range []string{"\x00\x01", "\x10\x00", "\x00\x00"} {
		for kind := range 256 {
			for _, tail := range []string{"", "\x01", "a", "\x00\x01", "\x00\x00", "\x00\x7f", "\x10\x00", "\x00\x01\x01"} {
				key := head + string([]byte{byte(kind)}) + tail
				noKeyUnlessRight(t, key)
			}
		}
	}
	for _, ino := range rightInos() {
		for _, other := range rightInos() {
			from, _ := From(ino, 4)
			noKey(t, from+OrphanKey(other)[3:])
		}
	}
}

// isOfTheChapter: is the text a key, by the chapter's words alone?
func isOfTheChapter(key string) bool {
	if len(key) < 3 {
		return false
	}
	two := func(s string) int { return int(s[0])*256 + int(s[1]) }
	number, tail := two(key), key[3:]
	switch key[2] {
	case 1:
		return 1 <= number && number <= 4096 && tail == ""
	case 2:
		return 1 <= number && number <= 4096 && names.Right(tail) == api.OK
	case 3:
		return 1 <= number && number <= 4096 && len(tail) == 2 && two(tail) < 128
	case 4:
		return number == 0 && len(tail) == 2 && 1 <= two(tail) && two(tail) <= 4096
	}
	return false
}

func TestKindOfAByteMoreOrLess(t *testing.T) {
	for _, key := range someKeys() {
		for size := range len(key) {
			noKeyUnlessRight(t, key[:size])
		}
		for x := range 256 {
			noKeyUnlessRight(t, key+string([]byte{byte(x)}))
		}
	}
	noKey(t, InodeKey(1)+"\x00")
	noKey(t, BlockKey(1, 0)+"\x00")
	noKey(t, BlockKey(1, 0)[:4])
	noKey(t, OrphanKey(1)+"\x00")
	noKey(t, OrphanKey(257)[:4])
	noKey(t, EntryKey(1, strings.Repeat("a", 24))+"a")
	noKey(t, EntryKey(1, "a")[:3])
}

// noKeyUnlessRight: a part of an entry's key may be an entry's, too.
func noKeyUnlessRight(t *testing.T, key string) {
	t.Helper()
	if !isOfTheChapter(key) {
		noKey(t, key)
	}
}

func TestKindOfAllShortTexts(t *testing.T) {
	noKey(t, "")
	for x := range 256 {
		noKey(t, string([]byte{byte(x)}))
		for y := range 256 {
			noKey(t, string([]byte{byte(x), byte(y)}))
		}
	}
	noKey(t, strings.Repeat("\x00", 1<<20))
	noKey(t, strings.Repeat("\x01", 1<<20))
	noKey(t, strings.Repeat("\x02", 1<<20))
}

func TestKindOfChance(t *testing.T) {
	chance := rand.New(rand.NewSource(1))
	for range 200000 {
		b := make([]byte, chance.Intn(9))
		chance.Read(b)
		for i := range min(len(b), 3) {
			b[i] %= 18
		}
		key := string(b)
		kind, ino, name, block := Kind(key)
		is(t, fmt.Sprintf("is %x a key", key), kind != 0, isOfTheChapter(key))
		if kind != 0 {
			is(t, "the key again", made(kind, ino, name, block), key)
		}
	}
}

// made: the key of what Kind told.
func made(kind, ino int, name string, block int) string {
	switch kind {
	case 1:
		return InodeKey(ino)
	case 2:
		return EntryKey(ino, name)
	case 3:
		return BlockKey(ino, block)
	}
	return OrphanKey(ino)
}

// someKeys: right ones of all kinds, at the edges, no two alike, in the chapter's order: orphans, then inode by inode, kind by kind.
func someKeys() []string {
	inos := slices.Sorted(slices.Values(rightInos()))
	var keys []string
	for _, ino := range inos {
		keys = append(keys, OrphanKey(ino))
	}
	for _, ino := range inos {
		keys = append(keys, InodeKey(ino))
		for _, name := range names.Sort(rightNames()) {
			keys = append(keys, EntryKey(ino, name))
		}
		for _, block := range rightBlocks() {
			keys = append(keys, BlockKey(ino, block))
		}
	}
	return keys
}

// P602

func TestOrderOfKeys(t *testing.T) {
	keys := someKeys()
	for i, a := range keys {
		for j, b := range keys {
			is(t, fmt.Sprintf("%x before %x", a, b), a < b, i < j)
		}
	}
}

func TestOrderOfNumbers(t *testing.T) {
	for ino := 1; ino < 4096; ino++ {
		is(t, "inodes", InodeKey(ino) < InodeKey(ino+1), true)
		is(t, "orphans", OrphanKey(ino) < OrphanKey(ino+1), true)
		is(t, "an inode's last block and the next inode", BlockKey(ino, 127) < InodeKey(ino+1), true)
		is(t, "an inode's last name and its first block", EntryKey(ino, strings.Repeat("\xff", 24)) < BlockKey(ino, 0), true)
	}
	for block := range 127 {
		is(t, "blocks", BlockKey(1, block) < BlockKey(1, block+1), true)
	}
	is(t, "the last orphan and the root", OrphanKey(4096) < InodeKey(1), true)
}

func TestOrderOfNames(t *testing.T) {
	chance := rand.New(rand.NewSource(2))
	name := func() string {
		b := make([]byte, 1+chance.Intn(4))
		for i := range b {
			b[i] = []byte{1, 2, 'a', 'b', 0x7f, 0x80, 0xff}[chance.Intn(7)]
		}
		return string(b)
	}
	for range 20000 {
		a, b := name(), name()
		is(t, fmt.Sprintf("%q before %q", a, b), EntryKey(258, a) < EntryKey(258, b), names.Less(a, b))
	}
}

func TestFromTellsJustThese(t *testing.T) {
	keys := someKeys()
	for _, ino := range append(rightInos(), 4094, 5) {
		for kind := 1; kind <= 3; kind++ {
			from, to := From(ino, kind)
			for _, key := range keys {
				k, i, _, _ := Kind(key)
				is(t, fmt.Sprintf("%x in From(%d, %d)", key, ino, kind), from <= key && key < to, k == kind && i == ino)
			}
		}
	}
	from, to := From(0, 4)
	for _, key := range keys {
		k, _, _, _ := Kind(key)
		is(t, fmt.Sprintf("%x among the orphans", key), from <= key && key < to, k == 4)
	}
}

func TestFromIsTight(t *testing.T) {
	from, to := From(258, 1)
	is(t, "the first key of an inode", from, InodeKey(258))
	next, _ := From(258, 2)
	is(t, "the first text behind it", to, "\x01\x02\x02")
	is(t, "the end of one kind and the beginning of the next", to, next)
}

// P603

func TestUnlikeThingsHaveUnlikeKeys(t *testing.T) {
	seen := map[string]string{}
	lay := func(key, what string) {
		if was, ok := seen[key]; ok {
			t.Errorf("%x is the key of %s and of %s", key, was, what)
		}
		seen[key] = what
	}
	for ino := 1; ino <= 4096; ino++ {
		lay(InodeKey(ino), fmt.Sprint("inode ", ino))
		lay(OrphanKey(ino), fmt.Sprint("orphan ", ino))
		for _, block := range rightBlocks() {
			lay(BlockKey(ino, block), fmt.Sprint("block ", ino, block))
		}
		for _, name := range append(rightNames(), "\x01\x02", "\x7f\x03", "\x10\x20") {
			lay(EntryKey(ino, name), fmt.Sprintf("entry %d %q", ino, name))
		}
	}
}
