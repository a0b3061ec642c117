package bits

import (
	"bytes"
	"hash/crc32"
	"math"
	"math/big"
	"math/rand"
	"testing"

	"pumice/api"
)

// sample: n bytes that look like chance, the same ones for the same n.
func sample(n int) []byte {
	b := make([]byte, n)
	rand.New(rand.NewSource(int64(n))).Read(b)
	return b
}

// inRoom: b as a slice with spare room behind it, and the whole of that room.
func inRoom(b []byte) ([]byte, []byte) {
	room := append(bytes.Clone(b), 0xa5, 0xa5, 0xa5, 0xa5, 0xa5, 0xa5, 0xa5, 0xa5)
	return room[:len(b)], room
}

// P101

func TestPut(t *testing.T) {
	const n = 0x0102030405060708
	for _, c := range []struct {
		n     uint64
		bytes int
		want  []byte
	}{
		{0x1234, 2, []byte{0x34, 0x12}},
		{0x1234, 1, []byte{0x34}},
		{0x1234, 4, []byte{0x34, 0x12, 0, 0}},
		{0, 3, []byte{0, 0, 0}},
		{n, 0, nil},
		{n, 1, []byte{8}},
		{n, 2, []byte{8, 7}},
		{n, 3, []byte{8, 7, 6}},
		{n, 4, []byte{8, 7, 6, 5}},
		{n, 5, []byte{8, 7, 6, 5, 4}},
		{n, 6, []byte{8, 7, 6, 5, 4, 3}},
		{n, 7, []byte{8, 7, 6, 5, 4, 3, 2}},
		{n, 8, []byte{8, 7, 6, 5, 4, 3, 2, 1}},
		{n, 9, []byte{8, 7, 6, 5, 4, 3, 2, 1}},
		{n, math.MaxInt, []byte{8, 7, 6, 5, 4, 3, 2, 1}},
		{n, -1, nil},
		{n, math.MinInt, nil},
		{math.MaxUint64, 8, bytes.Repeat([]byte{0xff}, 8)},
	} {
		if got := Put(c.n, c.bytes); !bytes.Equal(got, c.want) {
			t.Errorf("Put(%#x, %d): % x, not % x", c.n, c.bytes, got, c.want)
		}
	}
}

func TestGet(t *testing.T) {
	for _, c := range []struct {
		b    []byte
		want uint64
	}{
		{nil, 0},
		{[]byte{}, 0},
		{[]byte{1, 1}, 257},
		{[]byte{8}, 0x08},
		{[]byte{8, 7}, 0x0708},
		{[]byte{8, 7, 6}, 0x060708},
		{[]byte{8, 7, 6, 5}, 0x05060708},
		{[]byte{8, 7, 6, 5, 4}, 0x0405060708},
		{[]byte{8, 7, 6, 5, 4, 3}, 0x030405060708},
		{[]byte{8, 7, 6, 5, 4, 3, 2}, 0x02030405060708},
		{[]byte{8, 7, 6, 5, 4, 3, 2, 1}, 0x0102030405060708},
		{[]byte{8, 7, 6, 5, 4, 3, 2, 1, 9}, 0x0102030405060708},
		{bytes.Repeat([]byte{0xff}, 100), math.MaxUint64},
	} {
		if got := Get(c.b); got != c.want {
			t.Errorf("Get(% x): %#x, not %#x", c.b, got, c.want)
		}
	}
}

// P102

func TestSumOfWhatTheChapterTells(t *testing.T) {
	if got := Sum([]byte("123456789")); got != 0xCBF43926 {
		t.Errorf("Sum of 123456789: %#x", got)
	}
	if got := Sum(nil); got != 0 {
		t.Errorf("Sum of nothing: %#x", got)
	}
	if got := Sum([]byte{}); got != 0 {
		t.Errorf("Sum of an empty list: %#x", got)
	}
}

func TestSumIsTheOneOfEthernet(t *testing.T) {
	for x := range 256 {
		b := []byte{byte(x)}
		if got, want := Sum(b), crc32.ChecksumIEEE(b); got != want {
			t.Errorf("Sum of the byte %d: %#x, not %#x", x, got, want)
		}
	}
	for n := range 2050 {
		b := sample(n)
		if got, want := Sum(b), crc32.ChecksumIEEE(b); got != want {
			t.Errorf("Sum of %d bytes: %#x, not %#x", n, got, want)
		}
	}
}

// P103

func TestFrame(t *testing.T) {
	for _, c := range []struct {
		payload, want []byte
	}{
		{[]byte("a"), []byte{0x01, 0x00, 0x43, 0xbe, 0xb7, 0xe8, 0x61}},
		{[]byte("123456789"), append([]byte{9, 0, 0x26, 0x39, 0xf4, 0xcb}, "123456789"...)},
	} {
		got, e := Frame(c.payload)
		if e != api.OK || !bytes.Equal(got, c.want) {
			t.Errorf("Frame(%q): % x, %d, not % x", c.payload, got, int(e), c.want)
		}
	}
}

func TestFrameOfTheLongestPayload(t *testing.T) {
	payload := sample(MaxFrame)
	got, e := Frame(payload)
	if e != api.OK || len(got) != 6+1024 {
		t.Fatalf("Frame of %d bytes: %d bytes, %d", MaxFrame, len(got), int(e))
	}
	if got[0] != 0 || got[1] != 4 || !bytes.Equal(got[6:], payload) {
		t.Errorf("Frame of %d bytes begins with % x", MaxFrame, got[:6])
	}
}

func TestFrameRefuses(t *testing.T) {
	for _, payload := range [][]byte{nil, {}, make([]byte, MaxFrame+1), make([]byte, 1<<16), make([]byte, 1<<16+1)} {
		if got, e := Frame(payload); e != api.EINVAL || len(got) != 0 {
			t.Errorf("Frame of %d bytes: % x, %d", len(payload), got, int(e))
		}
	}
}

// noFrame: Unframe answers that b begins with none.
func noFrame(t *testing.T, what string, b []byte) {
	t.Helper()
	if payload, n, ok := Unframe(b); ok || n != 0 || len(payload) != 0 {
		t.Errorf("Unframe of %s: % x, %d, %v", what, payload, n, ok)
	}
}

func TestUnframe(t *testing.T) {
	payload, n, ok := Unframe([]byte{0x01, 0x00, 0x43, 0xbe, 0xb7, 0xe8, 0x61})
	if !ok || n != 7 || string(payload) != "a" {
		t.Errorf("Unframe of the frame of a: %q, %d, %v", payload, n, ok)
	}
}

func TestUnframeOfNoFrame(t *testing.T) {
	noFrame(t, "nil", nil)
	noFrame(t, "an empty list", []byte{})
	noFrame(t, "an erased page", bytes.Repeat([]byte{0xff}, 512))
	noFrame(t, "two bytes 0xff", []byte{0xff, 0xff})
	noFrame(t, "noughts: no frame has a payload of no byte", make([]byte, 64))
	noFrame(t, "a head of noughts", make([]byte, 6))
}

func TestUnframeOfAPayloadThatIsTooLong(t *testing.T) {
	for _, size := range []int{MaxFrame + 1, 1 << 15, 1<<16 - 1} {
		payload := make([]byte, size)
		head := append(Put(uint64(size), 2), Put(uint64(crc32.ChecksumIEEE(payload)), 4)...)
		noFrame(t, "a frame that would be too long", append(head, payload...))
	}
}

func TestUnframeOfAFrameThatIsCutOff(t *testing.T) {
	for _, size := range []int{1, 2, 100, MaxFrame} {
		frame, _ := Frame(sample(size))
		for n := range frame {
			// The rest of the frame stands in the spare room: it is no part of what is handed in.
			noFrame(t, "a part of a frame", frame[:n])
			noFrame(t, "a part of a frame without spare room", frame[:n:n])
		}
	}
}

// P104

func TestBlank(t *testing.T) {
	if !Blank(nil) || !Blank([]byte{}) || !Blank([]byte{0xff}) || !Blank([]byte{0xff, 0xff}) {
		t.Error("Blank of bytes 0xff alone: false")
	}
	for x := range 255 {
		if Blank([]byte{byte(x)}) {
			t.Errorf("Blank of the byte %d: true", x)
		}
	}
	page := bytes.Repeat([]byte{0xff}, 512)
	if !Blank(page) {
		t.Error("Blank of an erased page: false")
	}
	for i := range page {
		page[i] = 0x7f
		if Blank(page) {
			t.Errorf("Blank of a page with another byte at %d: true", i)
		}
		page[i] = 0xff
	}
}

func TestFill(t *testing.T) {
	for _, c := range []struct {
		b    []byte
		n    int
		want []byte
	}{
		{[]byte{1, 2}, 3, []byte{1, 2, 0xff}},
		{[]byte{1, 2}, 5, []byte{1, 2, 0xff, 0xff, 0xff}},
		{[]byte{1, 2}, 2, []byte{1, 2}},
		{[]byte{1, 2}, 1, []byte{1}},
		{[]byte{1, 2}, 0, nil},
		{[]byte{1, 2}, -1, nil},
		{[]byte{1, 2}, math.MinInt, nil},
		{nil, 2, []byte{0xff, 0xff}},
		{nil, 0, nil},
	} {
		if got := Fill(c.b, c.n); !bytes.Equal(got, c.want) {
			t.Errorf("Fill(% x, %d): % x, not % x", c.b, c.n, got, c.want)
		}
	}
}

func TestFillBeyondTheBoundEnds(t *testing.T) {
	for _, n := range []int{1 << 31, 1 << 40, math.MaxInt} {
		Fill([]byte{1}, n)
	}
}

func TestFillTakesNothingOutOfTheSpareRoom(t *testing.T) {
	b, _ := inRoom([]byte{1, 2})
	if got := Fill(b, 4); !bytes.Equal(got, []byte{1, 2, 0xff, 0xff}) {
		t.Errorf("Fill of a list with spare room: % x", got)
	}
}

func TestRound(t *testing.T) {
	const top = 1 << 62
	for _, c := range []struct{ n, unit, want int }{
		{129, 128, 256},
		{128, 128, 128},
		{127, 128, 128},
		{1, 128, 128},
		{0, 128, 0},
		{7, 1, 7},
		{7, 3, 9},
		{7, 100, 100},
		{7, 0, 7},
		{7, -1, 7},
		{7, math.MinInt, 7},
		{-1, 8, 0},
		{-8, 8, 0},
		{-9, 8, 0},
		{-1, math.MaxInt, 0},
		{math.MinInt, 1, 0},
		{math.MinInt, math.MaxInt, 0},
		{-7, 0, -7}, // both are told of it: the chapter names the unit first
		{top, 1, top},
		{top, top, top},
		{top - 1, 2, top},
		{top - 1, top, top},
		{1, top, top},
		{1, top + 1, 1},
		{1, math.MaxInt, 1},
		{top, 3, top},
		{top - 1, 3, top - 1},
		{top - 1, top - 2, top - 1},
		{top + 1, 2, top + 1},
		{top + 2, 2, top + 2},
		{math.MaxInt, 2, math.MaxInt},
		{math.MaxInt, math.MaxInt, math.MaxInt},
		{math.MaxInt - 1, math.MaxInt, math.MaxInt - 1},
	} {
		if got := Round(c.n, c.unit); got != c.want {
			t.Errorf("Round(%d, %d): %d, not %d", c.n, c.unit, got, c.want)
		}
	}
}

// roundBig: Round of an n from 0 on and a unit from 1 on, made of numbers without a range.
func roundBig(n, unit int) int {
	u := big.NewInt(int64(unit))
	r := big.NewInt(int64(n))
	r.Add(r, u).Sub(r, big.NewInt(1)).Div(r, u).Mul(r, u)
	if r.Cmp(new(big.Int).Lsh(big.NewInt(1), 62)) > 0 {
		return n
	}
	return int(r.Int64())
}

func TestRoundOfManyNumbers(t *testing.T) {
	for n := range 300 {
		for unit := 1; unit < 300; unit++ {
			if got, want := Round(n, unit), roundBig(n, unit); got != want {
				t.Fatalf("Round(%d, %d): %d, not %d", n, unit, got, want)
			}
		}
	}
	r := rand.New(rand.NewSource(1))
	for range 20000 {
		n, unit := r.Int()>>r.Intn(63), r.Int()>>r.Intn(62)
		if unit < 1 {
			continue
		}
		if got, want := Round(n, unit), roundBig(n, unit); got != want {
			t.Fatalf("Round(%d, %d): %d, not %d", n, unit, got, want)
		}
	}
}

// P105

func TestGetOfPut(t *testing.T) {
	r := rand.New(rand.NewSource(2))
	numbers := []uint64{0, 1, 0x80, 0xff, 0x100, 0xffff, 1 << 32, 1 << 63, math.MaxUint64}
	for range 1000 {
		numbers = append(numbers, r.Uint64()>>r.Intn(64))
	}
	for _, n := range numbers {
		for width := range 9 {
			want := n
			if width < 8 {
				want = n % (1 << (8 * width))
			}
			if got := Get(Put(n, width)); got != want {
				t.Errorf("Get of Put(%#x, %d): %#x, not %#x", n, width, got, want)
			}
		}
	}
}

func TestUnframeOfFrame(t *testing.T) {
	for size := 1; size <= MaxFrame; size++ {
		payload := sample(size)
		frame, e := Frame(payload)
		if e != api.OK {
			t.Fatalf("Frame of %d bytes: %d", size, int(e))
		}
		for _, behind := range [][]byte{nil, {0}, {0xff, 0xff}, frame, sample(2000)} {
			got, n, ok := Unframe(append(bytes.Clone(frame), behind...))
			if !ok || n != size+6 || !bytes.Equal(got, payload) {
				t.Fatalf("Unframe of a frame of %d bytes, %d behind it: %d bytes, %d, %v", size, len(behind), len(got), n, ok)
			}
		}
	}
}

func TestUnframeOfAFrameWithAByteTurned(t *testing.T) {
	for _, size := range []int{1, 2, 3, 17, 128, MaxFrame} {
		frame, _ := Frame(sample(size))
		for at := 2; at < len(frame); at++ {
			for _, turn := range []byte{1, 2, 4, 8, 16, 32, 64, 128, 0x55, 0xff} {
				frame[at] ^= turn
				noFrame(t, "a frame with a byte turned", frame)
				frame[at] ^= turn
			}
		}
	}
}

// DOC.md's rules 4 and 5

func TestWhatIsHandedInIsNotChanged(t *testing.T) {
	frame, _ := Frame([]byte("a payload"))
	for _, b := range [][]byte{[]byte("a payload"), frame, {0xff, 0xff}, {}} {
		in, room := inRoom(b)
		was := bytes.Clone(room)
		Get(in)
		Sum(in)
		Frame(in)
		Unframe(in)
		Blank(in)
		Fill(in, len(in)+4)
		Fill(in, len(in)/2)
		if !bytes.Equal(room, was) {
			t.Errorf("% x was changed to % x", was, room)
		}
	}
}

// scribble: writes over a list and its spare room.
func scribble(b []byte) {
	b = b[:cap(b)]
	for i := range b {
		b[i] ^= 0x5a
	}
}

func TestWhatIsHandedOutIsNewMemory(t *testing.T) {
	in, room := inRoom([]byte("a payload"))
	was := bytes.Clone(room)
	frame, _ := Frame(in)
	frameWas := bytes.Clone(frame)
	payload, _, _ := Unframe(frame)
	scribble(payload)
	if !bytes.Equal(frame, frameWas) {
		t.Error("Unframe hands out what it was given")
	}
	for _, out := range [][]byte{frame, Fill(in, len(in)), Fill(in, 3), Fill(in, len(in)+4)} {
		scribble(out)
	}
	if !bytes.Equal(room, was) {
		t.Errorf("% x was changed to % x", was, room)
	}
	scribble(Put(0x1234, 2))
	if got := Put(0x1234, 2); !bytes.Equal(got, []byte{0x34, 0x12}) {
		t.Errorf("Put hands out what it handed out before: % x", got)
	}
}
