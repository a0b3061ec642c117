package wbuf

import (
	"bytes"
	"encoding/binary"
	"fmt"
	"hash/crc32"
	"math"
	"math/rand"
	"testing"

	"pumice/api"
	"pumice/bits"
	"pumice/ebm"
	"pumice/nand"
	"pumice/scan"
)

// small: 12 logical blocks of 30 pages of 64 bytes.
var small = api.Geometry{Blocks: 16, Pages: 32, Page: 64, Reserve: 2}

const (
	smallPage = 64
	smallLog  = 30 * smallPage
)

func is[T comparable](t *testing.T, what string, got, want T) {
	t.Helper()
	if got != want {
		t.Errorf("%s: %s, not %s", what, shown(got), shown(want))
	}
}

// shown: a text may be any bytes.
func shown(x any) string {
	if text, ok := x.(string); ok {
		return fmt.Sprintf("%q", text)
	}
	return fmt.Sprintf("%+v", x)
}

// formatted: a manager over a chip that was formatted new.
func formatted(t *testing.T, g api.Geometry) *ebm.Manager {
	t.Helper()
	c, errno := nand.New(g, nil)
	is(t, "New", errno, api.OK)
	m, errno := ebm.Format(c)
	if errno != api.OK {
		t.Fatalf("Format: %d", errno)
	}
	return m
}

func attached(t *testing.T, c *nand.Chip) *ebm.Manager {
	t.Helper()
	m, errno := ebm.Attach(c)
	if errno != api.OK {
		t.Fatalf("Attach: %d", errno)
	}
	return m
}

func opened(t *testing.T, m *ebm.Manager, leb int) *Log {
	t.Helper()
	l, errno := Open(m, leb)
	if errno != api.OK || l == nil {
		t.Fatalf("Open(%d): %d", leb, errno)
	}
	return l
}

// fresh: an empty log of a new chip.
func fresh(t *testing.T) *Log {
	t.Helper()
	return opened(t, formatted(t, small), 1)
}

func arm(t *testing.T, c *nand.Chip, plan ...api.Fault) {
	t.Helper()
	is(t, "Arm", c.Arm(plan), api.OK)
}

// darken: the power goes off; nothing else changes.
func darken(t *testing.T, c *nand.Chip) {
	t.Helper()
	arm(t, c, api.Fault{At: 1, Kind: api.Cut})
	for n := range c.Geometry().Blocks {
		if !c.Bad(n) {
			is(t, "Erase", c.Erase(n), api.ENXIO)
			return
		}
	}
	t.Fatal("no block is left")
}

// spend: so many blocks go bad that the manager only reads. Those that are mapped stay.
func spend(t *testing.T, m *ebm.Manager) {
	t.Helper()
	l, errno := scan.Scan(m.Chip())
	is(t, "Scan", errno, api.OK)
	for n, b := range l {
		if b.State == scan.Free && !m.Spent() {
			is(t, "Mark", m.Chip().Mark(n), api.OK)
		}
	}
	is(t, "Spent", m.Spent(), true)
}

// sample: n bytes that look like chance, the same ones for the same n and seed.
func sample(n, seed int) []byte {
	b := make([]byte, n)
	rand.New(rand.NewSource(int64(seed)*5000 + int64(n))).Read(b)
	return b
}

// put: a frame with a payload of so many bytes, which must have room.
func put(t *testing.T, l *Log, size int) int {
	t.Helper()
	pos, errno := l.Append(sample(size, 0))
	if errno != api.OK {
		t.Fatalf("Append of %d bytes at %d: %d", size, l.End(), errno)
	}
	return pos
}

// framed: the frame of a payload, made without package bits (also of one that is too long).
func framed(payload []byte) []byte {
	b := binary.LittleEndian.AppendUint16(nil, uint16(len(payload)))
	b = binary.LittleEndian.AppendUint32(b, crc32.ChecksumIEEE(payload))
	return append(b, payload...)
}

// model: a log as the chapter's words have it.
type model struct {
	bytes      []byte // up to the end
	written    int    // how many of them are on the chip
	frames     []Frame
	page, room int
	broken     bool
}

func modelled(l *Log) *model {
	return &model{page: l.m.Page(), room: l.m.Page() * l.m.Pages()}
}

// fits: would a frame with a payload of so many bytes?
func (m *model) fits(size int) bool { return !m.broken && len(m.bytes)+6+size <= m.room }

// append: a frame that fits.
func (m *model) append(payload []byte) {
	m.frames = append(m.frames, Frame{len(m.bytes), bytes.Clone(payload)})
	m.bytes = append(m.bytes, framed(payload)...)
	if (len(m.bytes)+1)%m.page == 0 {
		m.bytes = append(m.bytes, 0xff)
	}
	m.written = len(m.bytes) / m.page * m.page
}

// sync: of a broken log nothing is kept.
func (m *model) sync() {
	for m.written < len(m.bytes) && len(m.bytes)%m.page != 0 {
		m.bytes = append(m.bytes, 0xff)
	}
	m.written = max(m.written, len(m.bytes))
}

// most: the greatest payload that fits, one by one.
func (m *model) most() int {
	for size := 1024; size > 0; size-- {
		if m.fits(size) {
			return size
		}
	}
	return 0
}

// held: a log against its model, and against what stands on the chip.
func held(t *testing.T, what string, l *Log, m *model) {
	t.Helper()
	is(t, what+": End", l.End(), len(m.bytes))
	is(t, what+": Broken", l.Broken(), m.broken)
	is(t, what+": Room", l.Room(), m.most())
	alike(t, what+": Frames", l.Frames(), m.frames)
	for _, f := range m.frames {
		got, errno := l.Read(f.Pos)
		is(t, what+": Read", errno, api.OK)
		is(t, what+": Read", string(got), string(f.Payload))
	}
}

// alike: two lists of frames; one without an element may be nil or empty.
func alike(t *testing.T, what string, got, want []Frame) {
	t.Helper()
	if len(got) != len(want) {
		t.Errorf("%s: %d frames, not %d", what, len(got), len(want))
		return
	}
	for i := range want {
		if got[i].Pos != want[i].Pos || !bytes.Equal(got[i].Payload, want[i].Payload) {
			t.Errorf("%s: frame %d: %d with %d bytes, not %d with %d", what, i, got[i].Pos, len(got[i].Payload), want[i].Pos, len(want[i].Payload))
		}
	}
}

// onChip: the bytes of a logical block that were written.
func onChip(t *testing.T, m *ebm.Manager, leb int) []byte {
	t.Helper()
	var b []byte
	for i := range m.Used(leb) {
		page, errno := m.Read(leb, i)
		is(t, "Read", errno, api.OK)
		b = append(b, page...)
	}
	return b
}

// TestExample: the chapter's.
func TestExample(t *testing.T) {
	l := fresh(t)
	m := l.m
	for _, c := range []struct {
		payload string
		pos     int
	}{{"a", 0}, {"bc", 7}} {
		pos, errno := l.Append([]byte(c.payload))
		is(t, "Append", errno, api.OK)
		is(t, "Append", pos, c.pos)
	}
	is(t, "End", l.End(), 15)
	is(t, "Used", m.Used(1), 0)
	is(t, "Sync", l.Sync(), api.OK)
	is(t, "End", l.End(), 64)
	pos, errno := l.Append([]byte("d"))
	is(t, "Append", errno, api.OK)
	is(t, "Append", pos, 64)
	alike(t, "Frames", l.Frames(), []Frame{{0, []byte("a")}, {7, []byte("bc")}, {64, []byte("d")}})
	darken(t, m.Chip())
	m.Chip().Power()
	l = opened(t, attached(t, m.Chip()), 1)
	alike(t, "Frames behind a cut", l.Frames(), []Frame{{0, []byte("a")}, {7, []byte("bc")}})
	is(t, "End", l.End(), 64)
}

// P1101

func TestOpenErrors(t *testing.T) {
	refused := func(what string, m *ebm.Manager, leb int, want api.Errno) {
		t.Helper()
		l, errno := Open(m, leb)
		is(t, what, errno, want)
		is(t, what, l, nil)
	}
	for _, leb := range []int{-1, 0, 5} {
		refused("nil", nil, leb, api.EFAULT)
	}
	m := formatted(t, small)
	m.Write(2, framed([]byte("a")))
	m.Change(3, nil)
	none := []int{-1, m.Lebs(), m.Lebs() + 1, math.MinInt, math.MaxInt}
	for _, leb := range none {
		refused("no such leb", m, leb, api.EINVAL)
	}
	darken(t, m.Chip())
	for _, on := range []bool{false, true} {
		if on {
			m.Chip().Power() // but the manager was not attached anew
		}
		for leb := range m.Lebs() {
			refused("off", m, leb, api.ENXIO)
		}
		for _, leb := range none {
			refused("no such leb, and off", m, leb, api.EINVAL)
		}
	}
}

func TestOpenOfNothing(t *testing.T) {
	m := formatted(t, small)
	m.Change(3, nil)
	ops := m.Chip().Ops()
	for _, leb := range []int{0, 3, m.Lebs() - 1} {
		l := opened(t, m, leb)
		held(t, fmt.Sprint("leb ", leb), l, modelled(l))
	}
	is(t, "Ops", m.Chip().Ops(), ops)
	for leb := range m.Lebs() {
		is(t, "Used", m.Used(leb), 0)
	}
}

// TestOpenUnreadable: each of the pages of a logical block in turn can't be read, by others' hands.
func TestOpenUnreadable(t *testing.T) {
	const used = 5
	for bad := range used {
		m := formatted(t, small)
		for range used {
			is(t, "Write", m.Write(4, framed(sample(58, 0))), api.OK)
		}
		is(t, "frames", len(opened(t, m, 4).Frames()), used)
		c := m.Chip()
		l, _ := scan.Scan(c)
		block := scan.Find(l, 4)
		is(t, "Erase", c.Erase(block), api.OK)
		arm(t, c, api.Fault{At: 2 + bad + 1, Kind: api.Fail})
		for page := range 2 + used {
			c.Program(block, page, framed(sample(58, 0)))
		}
		for range 2 {
			l, errno := Open(m, 4)
			is(t, fmt.Sprint("Open, page ", bad), errno, api.EIO)
			is(t, "Open", l, nil)
		}
		is(t, "another", len(opened(t, m, 5).Frames()), 0)
		darken(t, c)
		_, errno := Open(m, 4)
		is(t, "Open, and off", errno, api.ENXIO)
	}
}

// TestOpenClosed: whatever stands in it, nothing can be appended.
func TestOpenClosed(t *testing.T) {
	for used := range 4 {
		l := fresh(t)
		m := modelled(l)
		for i := range used {
			put(t, l, 10+i)
			is(t, "Sync", l.Sync(), api.OK)
			m.append(sample(10+i, 0))
			m.sync()
		}
		c := l.m.Chip()
		arm(t, c, api.Fault{At: 1, Kind: api.Cut, Torn: 1})
		if used == 0 {
			arm(t, c, api.Fault{At: 2, Kind: api.Cut, Torn: 1}) // behind the Mapping
		}
		is(t, "Write", l.m.Write(1, nil), api.ENXIO)
		c.Power()
		l = opened(t, attached(t, c), 1)
		is(t, "Closed", l.m.Closed(1), true)
		m.broken = true
		held(t, fmt.Sprint(used, " pages, closed"), l, m)
		full(t, "closed", l)
		is(t, "Sync", l.Sync(), api.OK)
		is(t, "End", l.End(), used*smallPage)
	}
}

// TestOpenMoved: a wear step opens what was closed, and what is appended then stands where it is told.
func TestOpenMoved(t *testing.T) {
	l := fresh(t)
	put(t, l, 10)
	is(t, "Sync", l.Sync(), api.OK)
	c := l.m.Chip()
	arm(t, c, api.Fault{At: 1, Kind: api.Cut, Torn: 1})
	is(t, "Write", l.m.Write(1, nil), api.ENXIO)
	c.Power()
	m := attached(t, c)
	l = opened(t, m, 1)
	is(t, "Broken", l.Broken(), true)
	for range 300 {
		m.Change(5, nil)
		m.Wear()
	}
	is(t, "Closed", m.Closed(1), false)
	is(t, "Broken", l.Broken(), false)
	is(t, "Append", put(t, l, 20), smallPage)
	is(t, "Sync", l.Sync(), api.OK)
	alike(t, "Frames", opened(t, m, 1).Frames(), []Frame{{0, sample(10, 0)}, {smallPage, sample(20, 0)}})
}

// full: no payload has room.
func full(t *testing.T, what string, l *Log) {
	t.Helper()
	before, ops := l.Frames(), l.m.Chip().Ops()
	for _, size := range []int{1, 2, 100, bits.MaxFrame} {
		pos, errno := l.Append(sample(size, 0))
		is(t, what+": Append", errno, api.ENOSPC)
		is(t, what+": Append", pos, 0)
	}
	is(t, what+": Room", l.Room(), 0)
	is(t, what+": Ops", l.m.Chip().Ops(), ops)
	alike(t, what+": Frames", l.Frames(), before)
}

// TestOpenAgain: behind each Append and each Sync what was written is opened, by the same manager and by another one.
func TestOpenAgain(t *testing.T) {
	l := fresh(t)
	m := modelled(l)
	for i, size := range []int{1, 50, 57, 63, 64, 200, 0, 51, 0, 0, 128, 58, 0, 300, 300, 400} {
		if size == 0 {
			is(t, "Sync", l.Sync(), api.OK)
			m.sync()
		} else {
			put(t, l, size)
			m.append(sample(size, 0))
		}
		what := fmt.Sprint("step ", i)
		held(t, what, l, m)
		is(t, what+": on the chip", string(onChip(t, l.m, 1)), string(m.bytes[:m.written]))
		for _, manager := range []*ebm.Manager{l.m, attached(t, l.m.Chip())} {
			frames, end, broken := told(m.bytes[:m.written], smallPage)
			o := opened(t, manager, 1)
			alike(t, what+": opened", o.Frames(), frames)
			is(t, what+": opened: End", o.End(), end)
			is(t, what+": opened: Broken", o.Broken(), broken)
		}
	}
}

// P1102

func TestAppendWrongPayloads(t *testing.T) {
	l := fresh(t)
	wrong := func(what string) {
		t.Helper()
		for _, payload := range [][]byte{nil, {}, make([]byte, bits.MaxFrame+1), make([]byte, 1<<16), make([]byte, 1<<16+1)} {
			pos, errno := l.Append(payload)
			is(t, what, errno, api.EINVAL)
			is(t, what, pos, 0)
		}
	}
	put(t, l, 3)
	wrong("ordinary")
	held(t, "behind wrong ones", l, &model{bytes: framed(sample(3, 0)), frames: []Frame{{0, sample(3, 0)}}, page: smallPage, room: smallLog})
	is(t, "Used", l.m.Used(1), 0)
	spend(t, l.m)
	wrong("spent")
	darken(t, l.m.Chip())
	wrong("off")
	l = fresh(t)
	l.m.Write(1, []byte("no frame"))
	l = opened(t, l.m, 1)
	wrong("broken")
}

func TestAppendSizes(t *testing.T) {
	for _, size := range []int{1, 2, 57, 58, 59, 100, bits.MaxFrame - 1, bits.MaxFrame} {
		l := fresh(t)
		m := modelled(l)
		is(t, "Append", put(t, l, size), 0)
		m.append(sample(size, 0))
		held(t, fmt.Sprint(size, " bytes"), l, m)
		is(t, "Used", l.m.Used(1), (size+6)/smallPage+b2n((size+6)%smallPage == smallPage-1))
	}
}

func b2n(b bool) int {
	if b {
		return 1
	}
	return 0
}

// TestAppendAtPageEnds: a frame whose end is a page's last byte, one ahead of it, one behind it, and so on; on the first page and over several.
func TestAppendAtPageEnds(t *testing.T) {
	for pages := 1; pages <= 4; pages++ {
		for gap, end := range map[int]int{-3: -3, -2: -2, -1: 0, 0: 0, 1: 1, 2: 2} {
			l := fresh(t)
			m := modelled(l)
			put(t, l, pages*smallPage+gap-6)
			m.append(sample(pages*smallPage+gap-6, 0))
			what := fmt.Sprint(pages, " pages and ", gap)
			is(t, what+": End", l.End(), pages*smallPage+end)
			is(t, what+": Used", l.m.Used(1), (pages*smallPage+end)/smallPage)
			held(t, what, l, m)
			is(t, what+": next", put(t, l, 5), pages*smallPage+end)
			m.append(sample(5, 0))
			held(t, what+", and one more", l, m)
			is(t, what+": on the chip", string(onChip(t, l.m, 1)), string(m.bytes[:m.written]))
			is(t, what+": Sync", l.Sync(), api.OK)
			m.sync()
			is(t, what+": on the chip", string(onChip(t, l.m, 1)), string(m.bytes))
			held(t, what+", opened", opened(t, l.m, 1), m)
		}
	}
}

// TestAppendToTheEnd: frames that just fill the log, that leave a byte, and one byte more than fits.
func TestAppendToTheEnd(t *testing.T) {
	const rest = smallLog - bits.MaxFrame - 6 - 200 - 6
	for _, left := range []int{0, 1, 2, 6, 7, 8} {
		l := fresh(t)
		m := modelled(l)
		for _, size := range []int{bits.MaxFrame, 200, rest - 6 - left} {
			put(t, l, size)
			m.append(sample(size, 0))
		}
		what := fmt.Sprint(left, " bytes left")
		held(t, what, l, m)
		room := max(left-6, 0)
		is(t, what+": Room", l.Room(), room)
		ops := l.m.Chip().Ops()
		pos, errno := l.Append(sample(room+1, 0))
		is(t, what+": one byte more", errno, api.ENOSPC)
		is(t, what+": one byte more", pos, 0)
		is(t, what+": Ops", l.m.Chip().Ops(), ops)
		held(t, what+", one byte more", l, m)
		if room > 0 {
			put(t, l, room)
			m.append(sample(room, 0))
		}
		is(t, what+": Sync", l.Sync(), api.OK)
		m.sync()
		is(t, what+": End", l.End(), smallLog)
		is(t, what+": Used", l.m.Used(1), l.m.Pages())
		full(t, what, l)
		is(t, what+": Broken", l.Broken(), false)
		held(t, what+", opened", opened(t, l.m, 1), m)
		full(t, what+", opened", opened(t, l.m, 1))
		is(t, what+": Sync of a full one", l.Sync(), api.OK)
	}
}

// appendTo: what Append says of a payload of so many bytes.
func appendTo(l *Log, size int) api.Errno {
	_, errno := l.Append(sample(size, 0))
	return errno
}

// TestAppendSpent: EROFS comes ahead of ENOSPC, and of ENXIO.
func TestAppendSpent(t *testing.T) {
	m := formatted(t, small)
	m.Write(2, []byte("no frame"))
	l, broken := opened(t, m, 1), opened(t, m, 2)
	put(t, l, 20)
	spend(t, m)
	for _, on := range []bool{true, false} {
		if !on {
			darken(t, m.Chip())
		}
		for _, x := range []*Log{l, broken} {
			for _, size := range []int{1, 100, bits.MaxFrame} {
				pos, errno := x.Append(sample(size, 0))
				is(t, "Append", errno, api.EROFS)
				is(t, "Append", pos, 0)
			}
		}
		is(t, "Sync", l.Sync(), api.EROFS)
		is(t, "Sync where nothing is kept", broken.Sync(), api.OK)
		alike(t, "Frames", l.Frames(), []Frame{{0, sample(20, 0)}})
		is(t, "End", l.End(), 26)
		is(t, "Room", l.Room(), bits.MaxFrame)
	}
}

// TestAppendOff: what only is kept needs no power; a page that is full does.
func TestAppendOff(t *testing.T) {
	l := fresh(t)
	m := modelled(l)
	put(t, l, 20)
	m.append(sample(20, 0))
	darken(t, l.m.Chip())
	for _, on := range []bool{false, true} {
		if on {
			l.m.Chip().Power()
		}
		for _, size := range []int{64, 200, bits.MaxFrame} {
			pos, errno := l.Append(sample(size, 0))
			is(t, "Append", errno, api.ENXIO)
			is(t, "Append", pos, 0)
			held(t, "off", l, m)
		}
		is(t, "Append", put(t, l, 3), len(m.bytes))
		m.append(sample(3, 0))
		held(t, "off, kept", l, m)
		is(t, "Sync", l.Sync(), api.ENXIO)
		held(t, "off, Sync", l, m)
	}
	l = fresh(t)
	for l.Room() > 1 {
		put(t, l, min(l.Room()-1, 300))
	}
	darken(t, l.m.Chip())
	is(t, "Append: ENOSPC comes ahead of ENXIO", appendTo(l, 100), api.ENOSPC)
}

// TestAppendKeepsNothingHandedIn: neither the payload nor its spare room is changed or kept.
func TestAppendKeepsNothingHandedIn(t *testing.T) {
	for _, size := range []int{5, 100} {
		l := fresh(t)
		room := bytes.Repeat([]byte{0xa5}, size+20)
		payload := room[:size]
		_, errno := l.Append(payload)
		is(t, "Append", errno, api.OK)
		is(t, "Sync", l.Sync(), api.OK)
		is(t, "payload", string(room), string(bytes.Repeat([]byte{0xa5}, size+20)))
		for i := range room {
			room[i] = 1
		}
		got, _ := l.Read(0)
		is(t, "Read", string(got), string(bytes.Repeat([]byte{0xa5}, size)))
		got, _ = opened(t, l.m, 1).Read(0)
		is(t, "Read", string(got), string(bytes.Repeat([]byte{0xa5}, size)))
	}
}

// P1103

func TestSync(t *testing.T) {
	l := fresh(t)
	ops := l.m.Chip().Ops()
	is(t, "Sync of an empty log", l.Sync(), api.OK)
	is(t, "End", l.End(), 0)
	is(t, "Ops", l.m.Chip().Ops(), ops)
	m := modelled(l)
	for i, size := range []int{1, 57, 58, 59, 64, 122, 300} {
		what := fmt.Sprint(size, " bytes")
		put(t, l, size)
		m.append(sample(size, 0))
		is(t, what+": Sync", l.Sync(), api.OK)
		m.sync()
		held(t, what, l, m)
		is(t, what+": on the chip", string(onChip(t, l.m, 1)), string(m.bytes))
		ops := l.m.Chip().Ops()
		is(t, what+": Sync again", l.Sync(), api.OK)
		is(t, what+": Ops", l.m.Chip().Ops(), ops)
		held(t, what+", twice", l, m)
		is(t, what+": frames", len(l.Frames()), i+1)
	}
	darken(t, l.m.Chip())
	is(t, "Sync where nothing is kept, and off", l.Sync(), api.OK)
}

// TestSyncWritesOnePage: what is kept is never a whole page.
func TestSyncWritesOnePage(t *testing.T) {
	for size := 1; size <= 200; size++ {
		l := fresh(t)
		put(t, l, size)
		used := l.m.Used(1)
		kept := l.End() % smallPage
		is(t, "Sync", l.Sync(), api.OK)
		is(t, fmt.Sprint(size, " bytes: Used"), l.m.Used(1), used+b2n(kept > 0))
		is(t, fmt.Sprint(size, " bytes: End"), l.End(), l.m.Used(1)*smallPage)
	}
}

// TestFailures: a program that fails is nobody's matter: of the six of Append (with the Mapping's), and of Sync's.
func TestFailures(t *testing.T) {
	for at := 1; at <= 7; at++ {
		l := fresh(t)
		m := modelled(l)
		arm(t, l.m.Chip(), api.Fault{At: at, Kind: api.Fail})
		for _, size := range []int{30, 200, 58, 57} {
			put(t, l, size)
			m.append(sample(size, 0))
			held(t, "Append", l, m)
		}
		what := fmt.Sprint("Fail at ", at)
		is(t, what+": Spare ahead of Sync", l.m.Spare(), 1+b2n(at == 7))
		is(t, what+": Sync", l.Sync(), api.OK)
		m.sync()
		held(t, what, l, m)
		is(t, what+": Spare", l.m.Spare(), 1)
		held(t, what+", opened", opened(t, l.m, 1), m)
		held(t, what+", attached", opened(t, attached(t, l.m.Chip()), 1), m)
		is(t, what+": Wrong", l.m.Chip().Wrong(), 0)
	}
}

// TestSpentWithin: blocks go bad within a call, till none may any more: it is done, or not at all.
func TestSpentWithin(t *testing.T) {
	for at := 1; at <= 12; at++ {
		for _, size := range []int{20, 40, 100, 180, 300} {
			l := fresh(t)
			m := modelled(l)
			put(t, l, 30)
			m.append(sample(30, 0))
			var plan []api.Fault
			for i := range 16 {
				plan = append(plan, api.Fault{At: at + i, Kind: api.Fail})
			}
			arm(t, l.m.Chip(), plan...)
			what := fmt.Sprint(size, " bytes, failing from ", at)
			switch errno := appendTo(l, size); errno {
			case api.OK:
				m.append(sample(size, 0))
			case api.EROFS:
				is(t, what+": Spent", l.m.Spent(), true)
			default:
				t.Errorf("%s: Append: %d", what, errno)
			}
			held(t, what, l, m)
			switch errno := l.Sync(); errno {
			case api.OK:
				m.sync()
			case api.EROFS:
				is(t, what+": Spent", l.m.Spent(), true)
			default:
				t.Errorf("%s: Sync: %d", what, errno)
			}
			held(t, what+", Sync", l, m)
			is(t, what+": Wrong", l.m.Chip().Wrong(), 0)
		}
	}
}

// P1104

func TestRead(t *testing.T) {
	l := fresh(t)
	m := modelled(l)
	for _, size := range []int{1, 20, 57, 58, 100, 7} {
		put(t, l, size)
		m.append(sample(size, 0))
	}
	for range 2 {
		begins := map[int]string{}
		for _, f := range m.frames {
			begins[f.Pos] = string(f.Payload)
		}
		for _, pos := range append([]int{-1, math.MinInt, math.MaxInt}, upTo(smallLog+3)...) {
			got, errno := l.Read(pos)
			want, there := begins[pos]
			if !there {
				is(t, fmt.Sprint("Read(", pos, ")"), errno, api.EINVAL)
			} else {
				is(t, fmt.Sprint("Read(", pos, ")"), errno, api.OK)
			}
			is(t, fmt.Sprint("Read(", pos, ")"), string(got), want)
		}
		is(t, "Sync", l.Sync(), api.OK) // and once more, with nothing kept
		l = opened(t, l.m, 1)
	}
	darken(t, l.m.Chip())
	got, errno := l.Read(0)
	is(t, "Read, off", errno, api.OK)
	is(t, "Read, off", string(got), string(sample(1, 0)))
	is(t, "Frames, off", len(l.Frames()), 6)
}

func upTo(n int) []int {
	var l []int
	for i := range n {
		l = append(l, i)
	}
	return l
}

// TestNewMemory: what is handed out is nobody else's.
func TestNewMemory(t *testing.T) {
	l := fresh(t)
	m := modelled(l)
	for _, size := range []int{5, 70, 9} {
		put(t, l, size)
		m.append(sample(size, 0))
	}
	scribble := func(b []byte) {
		b = b[:cap(b)]
		for i := range b {
			b[i] ^= 0x5a
		}
	}
	for range 2 {
		frames := l.Frames()
		first := l.Frames()
		scribble(frames[0].Payload)
		alike(t, "others of one answer", frames[1:], first[1:])
		for i := range frames {
			scribble(frames[i].Payload)
		}
		for i := range frames[:cap(frames)] {
			frames[:cap(frames)][i] = Frame{}
		}
		got, _ := l.Read(11)
		scribble(got)
		held(t, "scribbled", l, m)
		is(t, "Sync", l.Sync(), api.OK)
		m.sync()
		is(t, "on the chip", string(onChip(t, l.m, 1)), string(m.bytes))
		l = opened(t, l.m, 1)
	}
}

func TestRoom(t *testing.T) {
	l := fresh(t)
	is(t, "Room of an empty log", l.Room(), bits.MaxFrame)
	m := modelled(l)
	for range 9 * smallLog / smallPage { // 7 bytes each, and one of filling on each page
		is(t, fmt.Sprint("Room at ", l.End()), l.Room(), m.most())
		put(t, l, 1)
		m.append(sample(1, 0))
	}
	held(t, "full of small ones", l, m)
	full(t, "full of small ones", l)
	for _, c := range []struct{ payload, room int }{
		{smallPage - 6 - 2, bits.MaxFrame}, // near a page's end
		{smallPage - 6 - 1, bits.MaxFrame},
		{smallLog - 2*6 - bits.MaxFrame, bits.MaxFrame},
		{smallLog - 2*6 - bits.MaxFrame + 1, bits.MaxFrame - 1},
	} {
		l := fresh(t)
		put(t, l, c.payload)
		is(t, fmt.Sprint("Room behind ", c.payload), l.Room(), c.room)
	}
}

// TestRoomIsWhatAppendTakes: at each end that there may be.
func TestRoomIsWhatAppendTakes(t *testing.T) {
	for size := 1; size <= smallLog-2*6-bits.MaxFrame; size += 3 {
		for _, more := range []int{0, 1} {
			l := fresh(t)
			put(t, l, bits.MaxFrame)
			put(t, l, size)
			want := api.OK
			payload := l.Room() + more
			if payload == 0 {
				continue
			}
			if more == 1 {
				want = api.ENOSPC
			}
			if payload > bits.MaxFrame {
				want = api.EINVAL
			}
			is(t, fmt.Sprint("behind ", size, ": ", payload, " bytes"), appendTo(l, payload), want)
		}
	}
}

// TestNil: of no log.
func TestNil(t *testing.T) {
	var l *Log
	for _, payload := range [][]byte{nil, []byte("a"), make([]byte, bits.MaxFrame+1)} {
		pos, errno := l.Append(payload)
		is(t, "Append", errno, api.EFAULT)
		is(t, "Append", pos, 0)
	}
	is(t, "Sync", l.Sync(), api.EFAULT)
	for _, pos := range []int{-1, 0, 1} {
		b, errno := l.Read(pos)
		is(t, "Read", errno, api.EFAULT)
		is(t, "Read", len(b), 0)
	}
	is(t, "Frames", len(l.Frames()), 0)
	is(t, "Room", l.Room(), 0)
	is(t, "End", l.End(), 0)
	is(t, "Broken", l.Broken(), false)
}
