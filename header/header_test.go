package header

import (
	"bytes"
	"errors"
	"hash/crc32"
	"math"
	"math/rand"
	"testing"

	"pumice/api"
)

func is[T comparable](t *testing.T, what string, got, want T) {
	t.Helper()
	if got != want {
		t.Errorf("%s: %#v, not %#v", what, got, want)
	}
}

// little: n in so many bytes, the lowest first.
func little(n uint64, size int) []byte {
	out := make([]byte, size)
	for i := range out {
		out[i] = byte(n >> (8 * i))
	}
	return out
}

// join: all parts as one list.
func join(parts ...[]byte) []byte { return bytes.Join(parts, nil) }

// page: the payload's frame and 0xff up to size bytes, by the chapter's words alone.
func page(payload []byte, size int) []byte {
	out := join(little(uint64(len(payload)), 2), little(uint64(crc32.ChecksumIEEE(payload)), 4), payload)
	return append(out, bytes.Repeat([]byte{0xff}, size-len(out))...)
}

func countPayload(n uint64) []byte { return join([]byte("E"), little(n, 4)) }

func mapPayload(leb, seq, pages uint64) []byte {
	return join([]byte("M"), little(leb, 2), little(seq, 8), little(pages, 1))
}

// rightPages, wrongPages: sizes of pages at their bounds, and just outside and far outside.
func rightPages() []int { return []int{64, 65, 100, 128, 256, 511, 512} }
func wrongPages() []int {
	return []int{63, 513, 0, -1, 1, 17, 18, 1 << 20, 1 << 40, math.MinInt, math.MaxInt}
}

func rightCounts() []int { return []int{0, 1, 7, 255, 256, 1 << 16, 1<<31 - 2, 1<<31 - 1} }
func wrongCounts() []int {
	return []int{-1, 1 << 31, 1<<32 - 1, 1 << 32, -1 << 31, math.MinInt, math.MaxInt}
}

func rightMaps() []Map {
	var out []Map
	for _, leb := range []int{0, 1, 3, 254, 255} {
		for _, seq := range []uint64{0, 1, 9, 1 << 32, 0x0102030405060708, math.MaxUint64 - 1, math.MaxUint64} {
			for _, pages := range []int{0, 1, 2, 63, 64} {
				out = append(out, Map{leb, seq, pages})
			}
		}
	}
	return out
}

func wrongMaps() []Map {
	var out []Map
	for _, leb := range []int{-1, 256, 257, 1 << 16, 1 << 32, math.MinInt, math.MaxInt} {
		out = append(out, Map{Leb: leb}, Map{Leb: leb, Seq: 9, Pages: 64}, Map{Leb: leb, Pages: 65})
	}
	for _, pages := range []int{-1, 65, 255, 256, 257, 1 << 32, math.MinInt, math.MaxInt} {
		out = append(out, Map{Pages: pages}, Map{Leb: 255, Seq: math.MaxUint64, Pages: pages})
	}
	return out
}

// noCount, noMapping: b is parsed as nothing.
func noCount(t *testing.T, what string, b []byte) {
	t.Helper()
	if n, ok := ParseCount(b); ok || n != 0 {
		t.Errorf("ParseCount of %s: %d, %v", what, n, ok)
	}
}

func noMapping(t *testing.T, what string, b []byte) {
	t.Helper()
	if m, ok := ParseMapping(b); ok || m != (Map{}) {
		t.Errorf("ParseMapping of %s: %v, %v", what, m, ok)
	}
}

func nothing(t *testing.T, what string, b []byte) {
	t.Helper()
	noCount(t, what, b)
	noMapping(t, what, b)
}

// P501

func TestCountOfTheChapter(t *testing.T) {
	b, e := Count(7, 64)
	is(t, "errno", e, api.OK)
	is(t, "size", len(b), 64)
	is(t, "head", string(b[:2]), "\x05\x00")
	is(t, "payload", string(b[6:11]), "E\x07\x00\x00\x00")
	is(t, "rest", string(b[11:]), string(bytes.Repeat([]byte{0xff}, 53)))
}

func TestCount(t *testing.T) {
	for _, size := range rightPages() {
		for _, n := range rightCounts() {
			b, e := Count(n, size)
			if want := page(countPayload(uint64(n)), size); e != api.OK || !bytes.Equal(b, want) {
				t.Errorf("Count(%d, %d): % x, %d, not % x", n, size, b, int(e), want)
			}
		}
	}
}

func TestCountRefuses(t *testing.T) {
	refuses := func(n, size int) {
		if b, e := Count(n, size); e != api.EINVAL || len(b) != 0 {
			t.Errorf("Count(%d, %d): %d bytes, %d", n, size, len(b), int(e))
		}
	}
	for _, n := range wrongCounts() {
		for _, size := range append(rightPages(), wrongPages()...) {
			refuses(n, size)
		}
	}
	for _, size := range wrongPages() {
		for _, n := range rightCounts() {
			refuses(n, size)
		}
	}
}

func TestMapping(t *testing.T) {
	for _, size := range rightPages() {
		for _, m := range rightMaps() {
			b, e := Mapping(m, size)
			want := page(mapPayload(uint64(m.Leb), m.Seq, uint64(m.Pages)), size)
			if e != api.OK || !bytes.Equal(b, want) {
				t.Errorf("Mapping(%v, %d): % x, %d, not % x", m, size, b, int(e), want)
			}
		}
	}
}

func TestMappingRefuses(t *testing.T) {
	refuses := func(m Map, size int) {
		if b, e := Mapping(m, size); e != api.EINVAL || len(b) != 0 {
			t.Errorf("Mapping(%v, %d): %d bytes, %d", m, size, len(b), int(e))
		}
	}
	for _, m := range wrongMaps() {
		for _, size := range append(rightPages(), wrongPages()...) {
			refuses(m, size)
		}
	}
	for _, size := range wrongPages() {
		for _, m := range rightMaps() {
			refuses(m, size)
		}
	}
}

func TestImagesAreNewMemory(t *testing.T) {
	one, _ := Count(7, 64)
	clear(one[:cap(one)])
	two, _ := Count(7, 64)
	is(t, "Count behind what a caller wrote", string(two), string(page(countPayload(7), 64)))
	three, _ := Mapping(Map{3, 9, 2}, 64)
	clear(three[:cap(three)])
	four, _ := Mapping(Map{3, 9, 2}, 64)
	is(t, "Mapping behind what a caller wrote", string(four), string(page(mapPayload(3, 9, 2), 64)))
}

// P502

func TestParseOfBytesThatAreNoImage(t *testing.T) {
	nothing(t, "nil", nil)
	nothing(t, "an empty list", []byte{})
	for n := range 600 {
		nothing(t, "erased bytes", bytes.Repeat([]byte{0xff}, n))
		nothing(t, "noughts", make([]byte, n))
		chance := make([]byte, n)
		rand.New(rand.NewSource(int64(n))).Read(chance)
		nothing(t, "chance", chance)
	}
	nothing(t, "a long list", make([]byte, 1<<20))
}

func TestParseOfAnySize(t *testing.T) {
	count, mapping := page(countPayload(7), 2000), page(mapPayload(3, 9, 2), 2000)
	for size := range 2001 {
		n, ok := ParseCount(count[:size])
		m, fine := ParseMapping(mapping[:size])
		if size < 64 || size > 512 {
			is(t, "ParseCount of a page that can't be", ok || n != 0, false)
			is(t, "ParseMapping of a page that can't be", fine || m != Map{}, false)
			continue
		}
		is(t, "ParseCount", ok && n == 7, true)
		is(t, "ParseMapping", fine && m == Map{3, 9, 2}, true)
	}
}

func TestParseOfNumbersThatNoCallTakes(t *testing.T) {
	for _, size := range []int{64, 512} {
		for _, n := range []uint64{1 << 31, 1<<31 + 1, 1<<32 - 1} {
			nothing(t, "a count", page(countPayload(n), size))
		}
		for _, leb := range []uint64{256, 257, 1 << 15, 1<<16 - 1} {
			nothing(t, "a leb", page(mapPayload(leb, 1, 1), size))
		}
		for _, pages := range []uint64{65, 128, 255} {
			nothing(t, "pages", page(mapPayload(1, 1, pages), size))
		}
	}
}

func TestParseOfPayloadsThatNoCallMakes(t *testing.T) {
	for _, size := range []int{64, 100, 512} {
		for mark := range 256 {
			for n := range 40 {
				payload := append([]byte{byte(mark)}, make([]byte, n)...)
				b := page(payload, size)
				if !(mark == 'E' && n == 4) {
					noCount(t, "a payload with another mark or size", b)
				}
				if !(mark == 'M' && n == 11) {
					noMapping(t, "a payload with another mark or size", b)
				}
			}
		}
	}
	nothing(t, "a payload that fills a page", page(make([]byte, 512-6), 512))
}

func TestParseOfTheFrameElsewhere(t *testing.T) {
	for _, payload := range [][]byte{countPayload(7), mapPayload(3, 9, 2)} {
		b := page(payload, 128)
		nothing(t, "a frame that stands a byte behind", append([]byte{0xff}, b[:127]...))
		nothing(t, "a frame without its first byte", append(bytes.Clone(b[1:]), 0xff))
		twice := page(payload, 128)
		copy(twice[64:], b[:20])
		nothing(t, "two frames", twice)
		nothing(t, "a frame that is cut off, its rest in spare room", b[:10:128])
		low := page(payload, 128)
		low[0], low[1] = 0, 0
		nothing(t, "a frame of no byte", low)
	}
}

func TestParseChangesNothing(t *testing.T) {
	room := append(page(countPayload(7), 64), page(mapPayload(3, 9, 2), 64)...)
	was := bytes.Clone(room)
	for _, b := range [][]byte{room[:64], room[64:], room, room[:63], room[1:]} {
		ParseCount(b)
		ParseMapping(b)
	}
	is(t, "what was handed in", string(room), string(was))
}

func TestParseTakesNothingOutOfTheSpareRoom(t *testing.T) {
	room := append(page(countPayload(7), 64), 0, 0, 0, 0)
	n, ok := ParseCount(room[:64])
	is(t, "ParseCount with other bytes in its spare room", ok && n == 7, true)
	noCount(t, "what has other bytes behind it", room)
}

// P503

func TestBack(t *testing.T) {
	for size := 64; size <= 512; size++ {
		for _, n := range rightCounts() {
			b, _ := Count(n, size)
			got, ok := ParseCount(b)
			is(t, "ok of a Count's image", ok, true)
			is(t, "Count and back", got, n)
			noMapping(t, "a Count's image", b)
		}
		for _, m := range rightMaps() {
			b, _ := Mapping(m, size)
			got, ok := ParseMapping(b)
			is(t, "ok of a Mapping's image", ok, true)
			is(t, "Mapping and back", got, m)
			noCount(t, "a Mapping's image", b)
		}
	}
}

// turned: each byte of b turned into each other one is parsed as nothing.
func turned(t *testing.T, what string, b []byte) {
	t.Helper()
	for i, x := range b {
		for y := 1; y < 256; y++ {
			b[i] = x ^ byte(y)
			nothing(t, what, b)
		}
		b[i] = x
	}
}

func TestOneByteTurned(t *testing.T) {
	for _, size := range []int{64, 65, 512} {
		for _, n := range []int{0, 7, 'M', 1<<31 - 1} {
			b, _ := Count(n, size)
			turned(t, "a Count's image with a byte turned", b)
		}
		for _, m := range []Map{{}, {3, 9, 2}, {'E', 7, 64}, {255, math.MaxUint64, 64}} {
			b, _ := Mapping(m, size)
			turned(t, "a Mapping's image with a byte turned", b)
		}
	}
}

// The section Ways: what is wrong wraps what it comes of.

func TestWhatIsWrongWrapsItsCause(t *testing.T) {
	is(t, "a number out of bounds", errors.Is(checkPage(63), api.EINVAL), true)
	is(t, "a number within bounds", checkPage(64), nil)
	r := open(bytes.Repeat([]byte{0xff}, 64), countMark)
	is(t, "a page without a frame", errors.Is(r.err, errNoImage), true)
	is(t, "its text", r.err.Error(), "frame: no call makes such a page")
	r.note("later", api.EINVAL)
	is(t, "what is wrong first", errors.Is(r.err, errNoImage), true)
	long := open(make([]byte, 513), countMark)
	is(t, "a page that is too long", errors.Is(long.err, api.EINVAL), true)
}
