package wbuf

import (
	"bytes"
	"encoding/binary"
	"fmt"
	"hash/crc32"
	"math/rand"
	"testing"

	"pumice/api"
	"pumice/ebm"
)

// told: what the chapter's words say of the bytes of written pages: the frames, the end, whether something else stands behind them.
func told(data []byte, page int) (frames []Frame, end int, broken bool) {
	for end < len(data) {
		last := end/page*page + page - 1
		if end == last {
			end++
			if data[last] != 0xff {
				return frames, end, true
			}
			continue
		}
		if data[end] == 0xff && data[end+1] == 0xff {
			for i := end; i <= last; i++ {
				if data[i] != 0xff {
					return frames, end, true
				}
			}
			end = last + 1
			continue
		}
		size := int(binary.LittleEndian.Uint16(data[end:]))
		if size < 1 || size > 1024 || end+6+size > len(data) {
			return frames, end, true
		}
		payload := data[end+6 : end+6+size]
		if crc32.ChecksumIEEE(payload) != binary.LittleEndian.Uint32(data[end+2:]) {
			return frames, end, true
		}
		frames = append(frames, Frame{end, bytes.Clone(payload)})
		end += 6 + size
	}
	return frames, end, false
}

// laid: a logical block whose written pages have these bytes (filled up to a page).
func laid(t *testing.T, m *ebm.Manager, leb int, data []byte) {
	t.Helper()
	var pages [][]byte
	for len(data) > 0 {
		n := min(len(data), m.Page())
		pages = append(pages, data[:n])
		data = data[n:]
	}
	if errno := m.Change(leb, pages); errno != api.OK {
		t.Fatalf("Change: %d", errno)
	}
}

// whole: bytes up to a page's end, with 0xff.
func whole(data []byte, page int) []byte {
	data = bytes.Clone(data)
	for len(data)%page != 0 {
		data = append(data, 0xff)
	}
	return data
}

func joined(parts ...[]byte) []byte { return bytes.Join(parts, nil) }

func ones(n int) []byte { return bytes.Repeat([]byte{0xff}, n) }

// TestOpenWhatStandsThere: bytes by hand: where the frames end, and why.
func TestOpenWhatStandsThere(t *testing.T) {
	a, b := framed([]byte("a")), framed([]byte("bc")) // 7 and 8 bytes
	long := framed(sample(100, 0))                    // 106
	upTo63 := framed(sample(57, 0))                   // its end is the first page's last byte
	upTo62, upTo64 := framed(sample(56, 0)), framed(sample(58, 0))
	wrongSum := bytes.Clone(b)
	wrongSum[2] ^= 1
	wrongPayload := bytes.Clone(b)
	wrongPayload[7] ^= 0x80
	for _, c := range []struct {
		name   string
		data   []byte
		places []int
		end    int
		broken bool
	}{
		{"a blank page", ones(64), nil, 64, false},
		{"two blank pages", ones(128), nil, 128, false},
		{"blank pages, then a frame", joined(ones(128), a), []int{128}, 192, false},
		{"two frames", joined(a, b), []int{0, 7}, 64, false},
		{"a blank page between", joined(whole(a, 64), ones(64), b), []int{0, 128}, 192, false},
		{"filling behind a sync, then a frame", joined(whole(a, 64), b), []int{0, 64}, 128, false},
		{"two bytes 0xff, other bytes behind them", joined(a, ones(2), []byte{0}), []int{0}, 7, true},
		{"two bytes 0xff, another at the page's end", joined(a, ones(56), []byte{0xfe}), []int{0}, 7, true},
		{"two bytes 0xff at the beginning, a frame behind", joined(ones(2), a), nil, 0, true},
		{"two bytes 0xff at the page's end", joined(upTo62, ones(2), a), []int{0, 64}, 128, false},
		{"0xff and another byte at the page's end", joined(upTo62, []byte{0xff, 0}), []int{0}, 62, true},
		{"another byte and 0xff at the page's end", joined(upTo62, []byte{1, 0xff}), []int{0}, 62, true},
		{"one byte of filling", joined(upTo63, ones(1), a), []int{0, 64}, 128, false},
		{"another byte for filling", joined(upTo63, []byte{0}, a), []int{0}, 64, true},
		{"another byte for filling, nothing behind", joined(upTo63, []byte{0xfe}), []int{0}, 64, true},
		{"a frame up to the page's end", joined(upTo64, a), []int{0, 64}, 128, false},
		{"a frame up to the last page's end", upTo64, []int{0}, 64, false},
		{"a frame that begins on the last two bytes", joined(upTo62, a), []int{0, 62}, 128, false},
		{"a frame over the page's end", joined(a, long, b), []int{0, 7, 113}, 128, false},
		{"a frame over several pages' ends", framed(sample(200, 0)), []int{0}, 256, false},
		{"a frame that is cut short by the end", joined(a, long)[:64], []int{0}, 7, true},
		{"a head that is cut short by the end", joined(upTo62, a)[:64], []int{0}, 62, true},
		{"a frame that lacks one byte", framed(sample(59, 0))[:64], nil, 0, true},
		{"a frame that is cut short, a blank page behind", joined(a, joined(long)[:57], ones(64)), []int{0}, 7, true},
		{"a wrong sum", joined(a, wrongSum, a), []int{0}, 7, true},
		{"a wrong payload", joined(a, wrongPayload, a), []int{0}, 7, true},
		{"a wrong sum, at the beginning", wrongSum, nil, 0, true},
		{"a payload of no byte", joined(a, make([]byte, 6)), []int{0}, 7, true},
		{"noughts", make([]byte, 64), nil, 0, true},
		{"a payload of too many bytes", framed(sample(1025, 0)), nil, 0, true},
		{"a payload of the most bytes", framed(sample(1024, 0)), []int{0}, 1088, false},
		{"filling, then no frame", joined(whole(a, 64), []byte("x")), []int{0}, 64, true},
		{"filling, then filling with other bytes", joined(whole(a, 64), ones(63), []byte{0}), []int{0}, 64, true},
		{"one byte 0xff", joined([]byte{0xff, 0}, ones(62)), nil, 0, true},
	} {
		m := formatted(t, small)
		laid(t, m, 3, c.data)
		used := m.Used(3)
		l := opened(t, m, 3)
		is(t, c.name+": End", l.End(), c.end)
		is(t, c.name+": Broken", l.Broken(), c.broken)
		var places []int
		for _, f := range l.Frames() {
			places = append(places, f.Pos)
		}
		is(t, c.name+": places", fmt.Sprint(places), fmt.Sprint(c.places))
		frames, end, broken := told(whole(c.data, 64), 64)
		alike(t, c.name+": Frames", l.Frames(), frames)
		is(t, c.name+": the words' end", end, c.end)
		is(t, c.name+": the words' broken", broken, c.broken)
		is(t, c.name+": Sync", l.Sync(), api.OK)
		is(t, c.name+": Used", m.Used(3), used)
		goesOn(t, c.name, l)
	}
}

// goesOn: a log that was opened takes one frame more, unless it is broken.
func goesOn(t *testing.T, what string, l *Log) {
	t.Helper()
	if l.Broken() {
		full(t, what, l)
		return
	}
	want := append(l.Frames(), Frame{l.End(), sample(9, 1)})
	if l.Room() < 9 {
		return
	}
	pos, errno := l.Append(sample(9, 1))
	is(t, what+": Append", errno, api.OK)
	is(t, what+": Append", pos, want[len(want)-1].Pos)
	is(t, what+": Sync", l.Sync(), api.OK)
	alike(t, what+": Frames", l.Frames(), want)
	alike(t, what+": opened", opened(t, l.m, l.leb).Frames(), want)
}

// TestOpenByChance: bytes of chance, most of them frames and filling, some of them turned.
func TestOpenByChance(t *testing.T) {
	for _, g := range []api.Geometry{small, {Blocks: 16, Pages: 8, Page: 256}, {Blocks: 16, Pages: 16, Page: 128, Reserve: 1}} {
		m := formatted(t, g)
		r := rand.New(rand.NewSource(int64(g.Page)))
		for round := range 400 {
			data := byChance(r, g.Page, m.Pages()*g.Page)
			laid(t, m, 2, data)
			l := opened(t, m, 2)
			frames, end, broken := told(whole(data, g.Page), g.Page)
			what := fmt.Sprint("page ", g.Page, ", round ", round)
			alike(t, what, l.Frames(), frames)
			is(t, what+": End", l.End(), end)
			is(t, what+": Broken", l.Broken(), broken)
			goesOn(t, what, l)
			if t.Failed() {
				t.Fatalf("% x", data)
			}
		}
	}
}

// byChance: at most so many bytes, as a log might have them.
func byChance(r *rand.Rand, page, most int) []byte {
	var data []byte
	for range r.Intn(12) {
		switch r.Intn(8) {
		case 0:
			data = whole(data, page)
		case 1:
			data = append(data, ones(r.Intn(page))...)
		default:
			if len(data)%page == page-1 {
				data = append(data, 0xff)
			}
			data = append(data, framed(sample(1+r.Intn(1+r.Intn(2*page)), r.Intn(9)))...)
		}
	}
	if len(data) > 0 && r.Intn(3) == 0 {
		data[r.Intn(len(data))] ^= byte(1 + r.Intn(255))
	}
	data = data[:min(len(data), most)]
	if r.Intn(4) == 0 {
		data = data[:len(data)/page*page]
	}
	return data
}

// TestFramesStop: one who ranges over them may leave.
func TestFramesStop(t *testing.T) {
	data := whole(joined(framed([]byte("a")), framed([]byte("b")), framed([]byte("c"))), 64)
	for stop := 1; stop <= 3; stop++ {
		r := &reader{data: data, page: 64}
		var got []Frame
		for f := range r.frames() {
			got = append(got, f)
			if len(got) == stop {
				break
			}
		}
		is(t, "frames", len(got), stop)
		is(t, "at", r.at, 7*stop)
		is(t, "spoilt", r.spoilt, false)
		for _, f := range got {
			is(t, "spare room", cap(f.Payload), len(f.Payload))
		}
	}
}
