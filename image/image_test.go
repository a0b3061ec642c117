package image

import (
	"bytes"
	"fmt"
	"math"
	"math/rand"
	"reflect"
	"strings"
	"testing"

	"pumice/api"
	"pumice/bits"
)

func is(t *testing.T, what string, got, want any) {
	t.Helper()
	if !reflect.DeepEqual(got, want) {
		t.Errorf("%s: %#v, not %#v", what, got, want)
	}
}

// numbered: the key with that number, of so many bytes (at least 4): greater ones for greater numbers.
func numbered(n, size int) string {
	return string([]byte{byte(n >> 24), byte(n >> 16), byte(n >> 8), byte(n)}) + strings.Repeat("k", size-4)
}

// slotsOf: slots with these keys, each at a place of its own.
func slotsOf(keys ...string) []Slot {
	var l []Slot
	for n, key := range keys {
		l = append(l, Slot{Key: key, At: Place{Leb: n % 256, Pos: 1000 * n, Size: n % 65536}})
	}
	return l
}

// many: so many slots, with keys of so many bytes.
func many(count, size int) []Slot {
	var keys []string
	for n := range count {
		keys = append(keys, numbered(n, size))
	}
	return slotsOf(keys...)
}

// one: a leaf with a single slot.
func one(key string, at Place) Image { return Image{Slots: []Slot{{Key: key, At: at}}} }

func rightImages() []Image {
	var out []Image
	for _, level := range []int{0, 1, 2, 7, 14, 15} {
		out = append(out, Image{Level: level, Slots: slotsOf("a")})
		for count := 1; count <= 8; count++ {
			out = append(out, Image{Level: level, Slots: many(count, 4)}, Image{Level: level, Slots: many(count, 64)})
		}
	}
	for _, key := range []string{"\x00", "T", "\x7f", "\x80", "\xff", strings.Repeat("k", 63), strings.Repeat("\xff", 64), strings.Repeat("\x00", 64)} {
		out = append(out, one(key, Place{}))
	}
	out = append(out,
		Image{Slots: slotsOf("a", "aa", "aaa", "ab", "b")},
		Image{Slots: slotsOf("\x00", "\x00\x00", "\x7f", "\x7f\xff", "\x80", "\x80\x00", "\xff", "\xff\xff")},
		Image{Slots: slotsOf("z", "\u00e9", "\U0001f30b")},
	)
	for _, leb := range []int{0, 1, 127, 128, 254, 255} {
		for _, pos := range []int{0, 1, 255, 256, 258, 65535, 65536, 1<<24 - 2, 1<<24 - 1} {
			for _, size := range []int{0, 1, 255, 256, 65534, 65535} {
				out = append(out, one("a", Place{leb, pos, size}))
			}
		}
	}
	return out
}

// withSlot: an image of eight slots of which one is another.
func withSlot(n int, s Slot) Image {
	l := many(8, 4)
	l[n] = s
	return Image{Slots: l}
}

func wrongPlaces() []Place {
	var out []Place
	for _, leb := range []int{-1, 256, 257, 65535, 65536, 65537, 1 << 32, math.MinInt, math.MaxInt} {
		out = append(out, Place{Leb: leb}, Place{leb, 5, 7})
	}
	for _, pos := range []int{-1, 1 << 24, 1<<24 + 1, 1 << 32, math.MinInt, math.MaxInt} {
		out = append(out, Place{Pos: pos}, Place{5, pos, 7})
	}
	for _, size := range []int{-1, 65536, 65537, 1 << 24, 1 << 32, math.MinInt, math.MaxInt} {
		out = append(out, Place{Size: size}, Place{5, 7, size})
	}
	return append(out, Place{-1, -1, -1}, Place{256, 1 << 24, 65536})
}

func wrongImages() []Image {
	out := []Image{{}, {Slots: []Slot{}}, {Level: 1}, {Level: 15, Slots: []Slot{}}}
	for _, level := range []int{-1, -256, -255, 16, 17, 255, 256, 257, 1 << 32, math.MinInt, math.MaxInt} {
		out = append(out, Image{Level: level}, Image{Level: level, Slots: slotsOf("a")}, Image{Level: level, Slots: many(8, 64)})
	}
	for _, count := range []int{9, 10, 16, 255, 256, 257, 264, 1000} {
		out = append(out, Image{Slots: many(count, 4)}, Image{Level: 15, Slots: many(count, 64)})
	}
	for n := range 8 {
		out = append(out, withSlot(n, Slot{}))
		for _, size := range []int{65, 66, 128, 255, 256, 257, 320, 1 << 16} {
			// It would rise: its size alone is wrong.
			out = append(out, withSlot(n, Slot{Key: numbered(n, size)}))
		}
		for _, p := range wrongPlaces() {
			out = append(out, withSlot(n, Slot{Key: numbered(n, 4), At: p}))
		}
	}
	out = append(out, one("", Place{}), one(strings.Repeat("k", 65), Place{}))
	for _, p := range wrongPlaces() {
		out = append(out, one("a", p))
	}
	for _, keys := range fallingKeys() {
		out = append(out, Image{Slots: slotsOf(keys...)}, Image{Level: 15, Slots: slotsOf(keys...)})
	}
	return out
}

// fallingKeys: lists of right keys that do not rise.
func fallingKeys() [][]string {
	out := [][]string{
		{"a", "a"}, {"b", "a"}, {"ab", "a"}, {"aa", "a"}, {"a", "b", "b"}, {"a", "a", "b"}, {"a", "c", "b"}, {"b", "a", "c"},
		{"\x80", "\x7f"}, {"\xff", "\x00"}, {"\x7f\x80", "\x7f\x7f"}, {"\u00e9", "z"}, {"\xff", "\xfe"}, {"\x00\x00", "\x00"},
		{"\U0001f30b", "\u00e9"},
	}
	for n := 1; n < 8; n++ {
		var alike, turned []string
		for k := range 8 {
			alike = append(alike, numbered(k, 64))
			turned = append(turned, numbered(k, 64))
		}
		alike[n] = alike[n-1]
		turned[n], turned[n-1] = turned[n-1], turned[n]
		out = append(out, alike, turned)
	}
	return out
}

// packedText: an image as bytes, by the chapter's words alone.
func packedText(i Image) []byte {
	b := []byte{'T', byte(i.Level), byte(len(i.Slots))}
	for _, s := range i.Slots {
		b = append(b, byte(len(s.Key)))
		b = append(b, s.Key...)
		b = append(b, byte(s.At.Leb), byte(s.At.Leb>>8))
		b = append(b, byte(s.At.Pos), byte(s.At.Pos>>8), byte(s.At.Pos>>16))
		b = append(b, byte(s.At.Size), byte(s.At.Size>>8))
	}
	return b
}

// about: an image in a few words.
func about(i Image) string {
	text := fmt.Sprint("an image of level ", i.Level, " with ", len(i.Slots), " slots")
	for n, s := range i.Slots {
		if n == 8 {
			return text + ".."
		}
		text += fmt.Sprintf(" %.8q(%d)%v", s.Key, len(s.Key), s.At)
	}
	return text
}

func noImage(t *testing.T, what string, b []byte) {
	t.Helper()
	if i, ok := Unpack(b); ok || i.Level != 0 || i.Slots != nil {
		t.Errorf("Unpack of %s (%d bytes): %s, %v", what, len(b), about(i), ok)
	}
}

func TestFan(t *testing.T) { is(t, "Fan", Fan, 8) }

// F10.1: Right

func TestRight(t *testing.T) {
	for _, i := range rightImages() {
		is(t, "Right of "+about(i), Right(i), true)
	}
	for _, i := range wrongImages() {
		is(t, "Right of "+about(i), Right(i), false)
	}
}

func TestRightOfEachNumber(t *testing.T) {
	for level := -300; level < 300; level++ {
		is(t, fmt.Sprint("Right of the level ", level), Right(Image{Level: level, Slots: slotsOf("a")}), 0 <= level && level <= 15)
	}
	for count := range 600 {
		is(t, fmt.Sprint("Right of slots ", count), Right(Image{Slots: many(count, 4)}), 1 <= count && count <= 8)
	}
	for size := range 600 {
		is(t, fmt.Sprint("Right of a key of ", size), Right(one(strings.Repeat("k", size), Place{})), 1 <= size && size <= 64)
	}
	for leb := -300; leb < 600; leb++ {
		is(t, fmt.Sprint("Right of the block ", leb), Right(one("a", Place{Leb: leb})), 0 <= leb && leb <= 255)
	}
}

func TestRightOfEachTwoBytes(t *testing.T) {
	for a := range 256 {
		for b := range 256 {
			i := Image{Slots: slotsOf(string([]byte{byte(a)}), string([]byte{byte(b)}))}
			is(t, fmt.Sprint("Right of the keys ", a, " ", b), Right(i), a < b)
		}
	}
}

func TestRightAsksNothingBetweenPlaces(t *testing.T) {
	i := Image{Slots: []Slot{{"a", Place{255, 1<<24 - 1, 65535}}, {"b", Place{255, 1<<24 - 1, 65535}}, {"c", Place{}}}}
	is(t, "Right of places that are alike, and that fall", Right(i), true)
}

// F10.1: Pack

func TestPackOfTheChapter(t *testing.T) {
	b, e := Pack(one("a", Place{5, 258, 7}))
	is(t, "errno", e, api.OK)
	is(t, "bytes", fmt.Sprintf("% x", b), "54 00 01 01 61 05 00 02 01 00 07 00")
}

func TestPack(t *testing.T) {
	b, e := Pack(Image{Level: 15, Slots: []Slot{{"b", Place{255, 1<<24 - 1, 65535}}, {"cd", Place{1, 0x030201, 0x0504}}}})
	is(t, "errno", e, api.OK)
	is(t, "bytes", fmt.Sprintf("% x", b), "54 0f 02 01 62 ff 00 ff ff ff ff ff 02 63 64 01 00 01 02 03 04 05")
	for _, i := range rightImages() {
		b, e := Pack(i)
		if want := packedText(i); e != api.OK || !bytes.Equal(b, want) {
			t.Errorf("Pack of %s: % x, %d, not % x", about(i), b, int(e), want)
		}
	}
}

func TestPackRefuses(t *testing.T) {
	for _, i := range wrongImages() {
		if b, e := Pack(i); e != api.EINVAL || len(b) != 0 {
			t.Errorf("Pack of %s: %d bytes, %d", about(i), len(b), int(e))
		}
	}
}

func TestPackedIsNewMemory(t *testing.T) {
	i := Image{Level: 3, Slots: many(8, 9)}
	b, _ := Pack(i)
	clear(b[:cap(b)])
	again, _ := Pack(i)
	is(t, "Pack behind what a caller wrote", again, packedText(i))
}

// F10.1: Unpack

func TestUnpackOfTheChapter(t *testing.T) {
	i, ok := Unpack([]byte{0x54, 0, 1, 1, 0x61, 5, 0, 2, 1, 0, 7, 0})
	is(t, "ok", ok, true)
	is(t, "image", i, one("a", Place{5, 258, 7}))
}

func TestUnpack(t *testing.T) {
	for _, i := range rightImages() {
		got, ok := Unpack(packedText(i))
		is(t, "ok of "+about(i), ok, true)
		is(t, "Unpack of "+about(i), got, i)
	}
}

func TestUnpackOfNoBytes(t *testing.T) {
	noImage(t, "nil", nil)
	noImage(t, "an empty list", []byte{})
	noImage(t, "the first byte alone", []byte("T"))
	noImage(t, "noughts", make([]byte, 12))
	noImage(t, "an erased page", bytes.Repeat([]byte{0xff}, 512))
	noImage(t, "a long list", make([]byte, 1<<20))
	noImage(t, "a long list of first bytes", bytes.Repeat([]byte("T"), 1<<20))
}

func TestUnpackOfBytesMoreOrLess(t *testing.T) {
	for _, i := range rightImages() {
		b := packedText(i)
		for size := range b {
			// The rest stands in the spare room: it is no part of what is handed in.
			noImage(t, "a part of "+about(i), b[:size])
			noImage(t, "a part without spare room of "+about(i), b[:size:size])
		}
		for _, x := range []byte{0, 1, 'T', 0xff} {
			noImage(t, "a byte more behind "+about(i), append(bytes.Clone(b), x))
			noImage(t, "a byte more ahead of "+about(i), append([]byte{x}, b...))
		}
		noImage(t, "two of "+about(i), append(bytes.Clone(b), b...))
	}
}

func TestUnpackOfAnotherHead(t *testing.T) {
	for _, i := range []Image{one("a", Place{5, 258, 7}), {Level: 2, Slots: many(4, 5)}, {Level: 15, Slots: many(8, 64)}} {
		b := packedText(i)
		for x := range 256 {
			other := bytes.Clone(b)
			other[0] = byte(x)
			if x != 'T' {
				noImage(t, fmt.Sprint("the first byte ", x), other)
			}
			other = bytes.Clone(b)
			other[2] = byte(x)
			if x != len(i.Slots) {
				noImage(t, fmt.Sprint("the number of slots ", x), other)
			}
			other = bytes.Clone(b)
			other[1] = byte(x)
			if x > 15 {
				noImage(t, fmt.Sprint("the level ", x), other)
				continue
			}
			got, ok := Unpack(other)
			is(t, fmt.Sprint("ok with the level ", x), ok, true)
			is(t, fmt.Sprint("image with the level ", x), got, Image{Level: x, Slots: i.Slots})
		}
	}
	noImage(t, "no slots", []byte{'T', 0, 0})
	noImage(t, "slots that are not there", []byte{'T', 0, 8})
}

func TestUnpackOfSizesThatLie(t *testing.T) {
	for x := range 256 {
		b := packedText(Image{Slots: slotsOf("key", "kez")})
		b[3] = byte(x)
		if x != 3 {
			noImage(t, fmt.Sprint("the size of the first key ", x), b)
		}
		b = packedText(Image{Slots: slotsOf("key", "kez")})
		b[14] = byte(x)
		if x != 3 {
			noImage(t, fmt.Sprint("the size of the last key ", x), b)
		}
	}
}

func TestUnpackOfEachBlock(t *testing.T) {
	for x := range 65536 {
		b := packedText(one("a", Place{5, 258, 7}))
		b[5], b[6] = byte(x), byte(x>>8)
		if x >= 256 {
			noImage(t, fmt.Sprint("the block ", x), b)
			continue
		}
		got, ok := Unpack(b)
		is(t, fmt.Sprint("ok with the block ", x), ok, true)
		is(t, fmt.Sprint("image with the block ", x), got, one("a", Place{x, 258, 7}))
	}
}

// fits: does the image have bytes that tell just its fields?
func fits(i Image) bool {
	ok := 0 <= i.Level && i.Level < 256 && len(i.Slots) < 256
	for _, s := range i.Slots {
		ok = ok && len(s.Key) < 256 && 0 <= s.At.Leb && s.At.Leb < 1<<16 && 0 <= s.At.Pos && s.At.Pos < 1<<24 && 0 <= s.At.Size && s.At.Size < 1<<16
	}
	return ok
}

func TestUnpackOfImagesThatAreNotRight(t *testing.T) {
	some := 0
	for _, i := range wrongImages() {
		if fits(i) {
			some++
			noImage(t, "the bytes of "+about(i), packedText(i))
		}
	}
	is(t, "there were some", some > 50, true)
}

// isPacked: are these the bytes of an image, by the chapter's words alone?
func isPacked(b []byte) bool {
	if len(b) < 3 || b[0] != 'T' || b[1] > 15 || b[2] < 1 || b[2] > 8 {
		return false
	}
	count, rest, ahead := int(b[2]), b[3:], ""
	for range count {
		if len(rest) < 1 || rest[0] < 1 || rest[0] > 64 || len(rest) < 8+int(rest[0]) {
			return false
		}
		key := string(rest[1 : 1+rest[0]])
		if key <= ahead || rest[2+rest[0]] != 0 {
			return false
		}
		ahead, rest = key, rest[8+int(rest[0]):]
	}
	return len(rest) == 0
}

func TestUnpackOfEachByteTurned(t *testing.T) {
	for _, i := range []Image{one("a", Place{5, 258, 7}), {Level: 15, Slots: slotsOf("a", "b\x80", "b\x81")}} {
		b := packedText(i)
		for at := range b {
			for x := range 256 {
				other := bytes.Clone(b)
				other[at] = byte(x)
				held(t, other)
			}
		}
	}
}

// held: Unpack answers of these bytes what the chapter says; was it an image?
func held(t *testing.T, b []byte) bool {
	t.Helper()
	if !isPacked(b) {
		noImage(t, fmt.Sprintf("% x", b), b)
		return false
	}
	i, ok := Unpack(b)
	again, e := Pack(i)
	if !ok || !Right(i) || e != api.OK || !bytes.Equal(again, b) {
		t.Errorf("Unpack of % x: %s, %v, whose bytes are % x, %d", b, about(i), ok, again, int(e))
	}
	return true
}

func TestUnpackOfChance(t *testing.T) {
	chance := rand.New(rand.NewSource(10))
	images := 0
	for range 300000 {
		b := make([]byte, chance.Intn(24))
		for i := range b {
			b[i] = byte(chance.Intn(3))
		}
		if len(b) > 2 {
			b[0], b[2] = 'T', byte(len(b)/9)
		}
		if held(t, b) {
			images++
		}
	}
	is(t, "some were images", images > 100, true)
}

func TestUnpackKeepsNothingOfTheCallers(t *testing.T) {
	i := Image{Level: 1, Slots: many(8, 10)}
	b := packedText(i)
	room := append(bytes.Clone(b), 0xa5, 0xa5)
	got, ok := Unpack(room[:len(b)])
	is(t, "what was handed in", room, append(bytes.Clone(b), 0xa5, 0xa5))
	clear(room)
	is(t, "ok", ok, true)
	is(t, "the image behind what the caller wrote", got, i)
}

func TestUnpackedIsNewMemory(t *testing.T) {
	i := Image{Level: 1, Slots: many(3, 10)}
	b := packedText(i)
	one, _ := Unpack(b)
	two, _ := Unpack(b)
	clear(one.Slots[:cap(one.Slots)])
	is(t, "another image", two, i)
	three, _ := Unpack(b)
	is(t, "the image anew", three, i)
	is(t, "what was handed in", b, packedText(i))
}

// F10.1: Size, P1004

func TestSize(t *testing.T) {
	is(t, "Size of the chapter's leaf", Size(one("a", Place{5, 258, 7})), 18)
	is(t, "Size of the longest image", Size(Image{Level: 15, Slots: many(8, 64)}), 585)
	for _, i := range rightImages() {
		b, _ := Pack(i)
		frame, e := bits.Frame(b)
		is(t, "errno", e, api.OK)
		is(t, "Size of "+about(i), Size(i), len(frame))
		is(t, "Size within its bound of "+about(i), Size(i) <= 6+3+Fan*(8+api.MaxKey), true)
	}
	for _, i := range wrongImages() {
		is(t, "Size of "+about(i), Size(i), 0)
	}
}

// P1001

func TestPackAndBack(t *testing.T) {
	for _, i := range rightImages() {
		b, _ := Pack(i)
		got, ok := Unpack(b)
		is(t, "ok", ok, true)
		is(t, "Pack and back", got, i)
	}
}

// chanceImage: a right image, all of whose fields are by chance.
func chanceImage(chance *rand.Rand) Image {
	count := 1 + chance.Intn(8)
	i := Image{Level: chance.Intn(16)}
	first := chance.Intn(100)
	for len(i.Slots) < count {
		key := make([]byte, 1+chance.Intn(64))
		chance.Read(key)
		first += 1 + chance.Intn(15)
		key[0] = byte(first)
		at := Place{chance.Intn(256), chance.Intn(1 << 24), chance.Intn(1 << 16)}
		i.Slots = append(i.Slots, Slot{string(key), at})
	}
	return i
}

func TestPackAndBackOfChance(t *testing.T) {
	chance := rand.New(rand.NewSource(1001))
	for range 20000 {
		i := chanceImage(chance)
		b, e := Pack(i)
		got, ok := Unpack(b)
		is(t, "errno", e, api.OK)
		is(t, "ok", ok, true)
		is(t, "Pack and back", got, i)
		is(t, "Size", Size(i), 6+len(b))
	}
}

func TestUnlikeImagesHaveUnlikeBytes(t *testing.T) {
	seen := map[string]Image{}
	images := append(rightImages(),
		Image{Slots: slotsOf("a", "b")}, Image{Slots: slotsOf("a", "c")}, Image{Slots: slotsOf("ab")}, Image{Slots: slotsOf("a\x01b")},
		Image{Level: 1, Slots: slotsOf("a", "b")}, Image{Slots: slotsOf("aa", "b")}, Image{Slots: slotsOf("a", "ab")})
	for _, i := range images {
		b, _ := Pack(i)
		if was, ok := seen[string(b)]; ok && !reflect.DeepEqual(was, i) {
			t.Errorf("the bytes of %s are those of %s", about(i), about(was))
		}
		seen[string(b)] = i
	}
	is(t, "there were many", len(seen) > 300, true)
}

// F10.2, P1002

// lastUpTo: what Child answers, by the chapter's words alone.
func lastUpTo(l []Slot, key string) int {
	last := -1
	for n, s := range l {
		if s.Key <= key {
			last = n
		}
	}
	return last
}

func TestChildOfTheChapter(t *testing.T) {
	i := Image{Slots: slotsOf("b", "d")}
	for key, want := range map[string]int{"a": -1, "b": 0, "c": 0, "z": 1, "d": 1, "": -1, "ba": 0, "cz": 0, "d\x00": 1, "\xff": 1, "\x00": -1} {
		is(t, fmt.Sprintf("Child of %q", key), Child(i, key), want)
	}
}

func TestChildOfANodeWithoutSlots(t *testing.T) {
	for _, key := range []string{"", "a", "\xff", strings.Repeat("k", 100)} {
		is(t, "Child of no image", Child(Image{}, key), -1)
		is(t, "Child of no slots", Child(Image{Level: 3, Slots: []Slot{}}, key), -1)
	}
}

func TestChildOfEachKey(t *testing.T) {
	for count := range 30 {
		for _, level := range []int{-1, 0, 5, 99} {
			i := Image{Level: level, Slots: many(count, 5)}
			is(t, "Child below the first", Child(i, "\x00"), -1)
			for n, s := range i.Slots {
				is(t, "Child of its own key", Child(i, s.Key), n)
				is(t, "Child just below", Child(i, s.Key[:4]), n-1)
				is(t, "Child just above", Child(i, s.Key+"\x00"), n)
			}
			is(t, "Child above the last", Child(i, "\xff"), count-1)
		}
	}
}

func TestChildGoesByBytes(t *testing.T) {
	i := Image{Slots: slotsOf("\x00", "\x7f", "\x80", "\xff")}
	for key, want := range map[string]int{"\x00": 0, "\x7e": 0, "\x7f": 1, "\x7f\xff": 1, "\x80": 2, "\xfe": 2, "\xff": 3, "\xff\xff": 3, "": -1} {
		is(t, fmt.Sprintf("Child of %q", key), Child(i, key), want)
	}
}

func TestChildrenOfKeysThatRiseDoNotFall(t *testing.T) {
	chance := rand.New(rand.NewSource(1002))
	for range 200 {
		i := chanceImage(chance)
		last := -1
		for key := range 1 << 16 {
			if key%7 != 0 {
				continue
			}
			child := Child(i, string([]byte{byte(key >> 8), byte(key)}))
			if child < last {
				t.Fatalf("Child of %s falls at %d from %d to %d", about(i), key, last, child)
			}
			last = child
		}
		is(t, "Child of the greatest key", Child(i, "\xff"), len(i.Slots)-1)
	}
}

func TestChildOfChance(t *testing.T) {
	chance := rand.New(rand.NewSource(102))
	for range 3000 {
		i := chanceImage(chance)
		for range 10 {
			key := make([]byte, chance.Intn(3))
			chance.Read(key)
			is(t, "Child", Child(i, string(key)), lastUpTo(i.Slots, string(key)))
		}
	}
}

// Keys that are alike or fall are no image's, but the words say what Child answers of them too.
func TestChildOfKeysThatDoNotRise(t *testing.T) {
	is(t, "Child of keys that are alike", Child(Image{Slots: slotsOf("b", "b", "b")}, "b"), 2)
	for size := range 7 {
		lists := 1
		for range size {
			lists *= 4
		}
		for list := range lists {
			var keys []string
			for rest := list; len(keys) < size; rest /= 4 {
				keys = append(keys, []string{"", "b", "d", "f"}[rest%4])
			}
			i := Image{Slots: slotsOf(keys...)}
			for _, key := range []string{"", "a", "b", "c", "d", "e", "f", "g"} {
				if got, want := Child(i, key), lastUpTo(i.Slots, key); got != want {
					t.Fatalf("Child of %q in %q: %d, not %d", key, keys, got, want)
				}
			}
		}
	}
}

func TestLooksChangeNothing(t *testing.T) {
	room := many(12, 6)
	was := many(12, 6)
	i := Image{Level: 2, Slots: room[:8]}
	Right(i)
	Pack(i)
	Size(i)
	Child(i, numbered(3, 6))
	is(t, "what was handed in", room, was)
}
