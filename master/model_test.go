package master

import (
	"bytes"
	"encoding/binary"
	"fmt"
	"hash/crc32"
	"math/rand"
	"testing"

	"pumice/api"
	"pumice/ebm"
	"pumice/nand"
	"pumice/scan"
)

// small: 12 logical blocks of 30 pages of 64 bytes.
var small = api.Geometry{Blocks: 16, Pages: 32, Page: 64, Reserve: 2}

// tight: logical blocks of the fewest bytes that there may be, 1536.
var tight = api.Geometry{Blocks: 16, Pages: 8, Page: 256, Reserve: 2}

// large: logical blocks of the most bytes that there may be.
var large = api.Geometry{Blocks: 256, Pages: 64, Page: 512, Reserve: 64}

func is[T comparable](t *testing.T, what string, got, want T) {
	t.Helper()
	if got != want {
		t.Errorf("%s: %s, not %s", what, shown(got), shown(want))
	}
}

// shown: a text may be any bytes.
func shown(x any) string {
	switch v := x.(type) {
	case string:
		return fmt.Sprintf("%q", v)
	case Record:
		return fmt.Sprintf("{%d %q}", v.Epoch, v.Text)
	}
	return fmt.Sprintf("%+v", x)
}

func formatted(t *testing.T, g api.Geometry) *ebm.Manager {
	t.Helper()
	c, errno := nand.New(g, nil)
	is(t, "nand.New", errno, api.OK)
	m, errno := ebm.Format(c)
	if errno != api.OK {
		t.Fatalf("Format: %d", errno)
	}
	return m
}

func attached(t *testing.T, c *nand.Chip) *ebm.Manager {
	t.Helper()
	m, errno := ebm.Attach(c)
	if errno != api.OK {
		t.Fatalf("Attach: %d", errno)
	}
	return m
}

func created(t *testing.T, m *ebm.Manager, r Record) *Master {
	t.Helper()
	x, errno := Create(m, r)
	if errno != api.OK || x == nil {
		t.Fatalf("Create: %d", errno)
	}
	return x
}

func opened(t *testing.T, m *ebm.Manager) *Master {
	t.Helper()
	x, errno := Open(m)
	if errno != api.OK || x == nil {
		t.Fatalf("Open: %d", errno)
	}
	return x
}

func arm(t *testing.T, c *nand.Chip, plan ...api.Fault) {
	t.Helper()
	is(t, "Arm", c.Arm(plan), api.OK)
}

// darken: the power goes off; nothing else changes.
func darken(t *testing.T, c *nand.Chip) {
	t.Helper()
	arm(t, c, api.Fault{At: 1, Kind: api.Cut})
	for n := range c.Geometry().Blocks {
		if !c.Bad(n) {
			is(t, "Erase", c.Erase(n), api.ENXIO)
			return
		}
	}
	t.Fatal("no block is left")
}

// spend: so many blocks go bad that the manager only reads. Those that are mapped stay.
func spend(t *testing.T, m *ebm.Manager) {
	t.Helper()
	l, errno := scan.Scan(m.Chip())
	is(t, "Scan", errno, api.OK)
	for n, b := range l {
		if b.State == scan.Free && !m.Spent() {
			is(t, "Mark", m.Chip().Mark(n), api.OK)
		}
	}
	is(t, "Spent", m.Spent(), true)
}

// spoil: no page of a logical block can be read any more.
func spoil(t *testing.T, m *ebm.Manager, leb int) {
	t.Helper()
	l, errno := scan.Scan(m.Chip())
	is(t, "Scan", errno, api.OK)
	arm(t, m.Chip(), api.Fault{At: 1, Kind: api.Fail})
	is(t, "Erase", m.Chip().Erase(scan.Find(l, leb)), api.EIO)
}

// torn: the next page of the logical block 0, of which some must be there, is torn by a cut: it is closed. The manager that is attached then.
func torn(t *testing.T, c *nand.Chip) *ebm.Manager {
	t.Helper()
	m := attached(t, c)
	if m.Used(0) == 0 {
		t.Fatal("nothing stands in the logical block 0")
	}
	arm(t, c, api.Fault{At: 1, Kind: api.Cut, Torn: 1})
	is(t, "Write", m.Write(0, []byte("x")), api.ENXIO)
	c.Power()
	m = attached(t, c)
	is(t, "Closed", m.Closed(0), true)
	return m
}

// text: n bytes that look like chance, the same ones for the same n and seed.
func text(n, seed int) string {
	b := make([]byte, n)
	rand.New(rand.NewSource(int64(seed)*1000 + int64(n))).Read(b)
	return string(b)
}

// frameOf: a frame, made without package bits.
func frameOf(payload []byte) []byte {
	b := binary.LittleEndian.AppendUint16(nil, uint16(len(payload)))
	b = binary.LittleEndian.AppendUint32(b, crc32.ChecksumIEEE(payload))
	return append(b, payload...)
}

// superOf: a superblock's frame, as the chapter's words have it.
func superOf(g api.Geometry) []byte {
	b := []byte("pumice1")
	for _, n := range []int{g.Blocks, g.Pages, g.Page, g.Reserve} {
		b = binary.LittleEndian.AppendUint16(b, uint16(n))
	}
	return frameOf(b)
}

// recordOf: a record's frame, likewise.
func recordOf(r Record) []byte {
	b := binary.LittleEndian.AppendUint64([]byte{'R'}, r.Epoch)
	return frameOf(append(b, r.Text...))
}

// whole: bytes up to a page's end, with 0xff.
func whole(b []byte, page int) []byte {
	b = bytes.Clone(b)
	for len(b)%page != 0 {
		b = append(b, 0xff)
	}
	return b
}

func joined(parts ...[]byte) []byte { return bytes.Join(parts, nil) }

// laid: the logical block 0 has these bytes (filled up to a page).
func laid(t *testing.T, m *ebm.Manager, parts ...[]byte) {
	t.Helper()
	var pages [][]byte
	for data := joined(parts...); len(data) > 0; {
		n := min(len(data), m.Page())
		pages = append(pages, data[:n])
		data = data[n:]
	}
	if errno := m.Change(0, pages); errno != api.OK {
		t.Fatalf("Change: %d", errno)
	}
}

// onChip: all bytes that a logical block has.
func onChip(t *testing.T, m *ebm.Manager, leb int) string {
	t.Helper()
	var b []byte
	for i := range m.Used(leb) {
		page, errno := m.Read(leb, i)
		if errno != api.OK {
			t.Fatalf("Read(%d, %d): %d", leb, i, errno)
		}
		b = append(b, page...)
	}
	return string(b)
}

// others: what all logical blocks but 0 have.
func others(t *testing.T, m *ebm.Manager) string {
	t.Helper()
	all := ""
	for leb := 1; leb < m.Lebs(); leb++ {
		all += fmt.Sprintf("%d %d %q\n", leb, m.Used(leb), onChip(t, m, leb))
	}
	return all
}

// model: the logical block 0 as the chapter's words have it.
type model struct {
	g      api.Geometry
	data   []byte // of its pages
	newest Record
	saves  int
	broken bool // nothing can be appended
}

// begun: the model behind Create.
func begun(g api.Geometry, r Record) model {
	return model{g: g, data: whole(joined(superOf(g), recordOf(r)), g.Page), newest: r, saves: 1}
}

// saved: the model behind Save.
func (m model) saved(r Record) model {
	frame := recordOf(r)
	if m.broken || len(m.data)+len(frame) > (m.g.Pages-2)*m.g.Page {
		return begun(m.g, r)
	}
	m.data = whole(joined(m.data, frame), m.g.Page)
	m.newest = r
	m.saves++
	return m
}

// tells: what a master says of its records.
func tells(t *testing.T, what string, x *Master, r Record, saves int) {
	t.Helper()
	is(t, what+": Record", x.Record(), r)
	is(t, what+": Saves", x.Saves(), saves)
}

// held: a master against the model: what it says, what stands on the chip byte by byte, what is opened anew.
func (m model) held(t *testing.T, what string, x *Master) {
	t.Helper()
	tells(t, what, x, m.newest, m.saves)
	is(t, what+": on the chip", onChip(t, x.m, 0), string(m.data))
	tells(t, what+", opened", opened(t, x.m), m.newest, m.saves)
	is(t, what+": Wrong", x.m.Chip().Wrong(), 0)
}

// heldByAll: likewise, and by a manager that is attached anew.
func (m model) heldByAll(t *testing.T, what string, x *Master) {
	t.Helper()
	m.held(t, what, x)
	m.held(t, what+", attached", opened(t, attached(t, x.m.Chip())))
}
