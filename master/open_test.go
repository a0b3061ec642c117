package master

import (
	"bytes"
	"fmt"
	"testing"

	"pumice/api"
	"pumice/ebm"
)

// refusal: Open says this, and nothing changes.
func refusal(t *testing.T, what string, m *ebm.Manager, want api.Errno) {
	t.Helper()
	ops := m.Chip().Ops()
	x, errno := Open(m)
	is(t, what, errno, want)
	is(t, what, x, nil)
	is(t, what+": Ops", m.Chip().Ops(), ops)
}

// TestOpenNone: what is no master.
func TestOpenNone(t *testing.T) {
	super, record := superOf(small), recordOf(Record{1, "a"})
	other := small
	other.Reserve = 1
	blank := bytes.Repeat([]byte{0xff}, 64)
	noRecord := func(payload string) []byte { return joined(super, record, frameOf([]byte(payload))) }
	for _, c := range []struct {
		name string
		data []byte
	}{
		{"no pages", nil},
		{"a blank page", blank},
		{"bytes that are no frame", []byte("other")},
		{"noughts", make([]byte, 128)},
		// the first frame
		{"another chip's superblock", joined(superOf(other), record)},
		{"one of another kind of chip", joined(superOf(large), record)},
		{"too short a superblock", joined(frameOf(Super(small)[:14]), record)},
		{"too long a superblock", joined(frameOf(append(Super(small), 0)), record)},
		{"the name alone", joined(frameOf([]byte("pumice1")), record)},
		{"a geometry alone", joined(frameOf(Super(small)[7:]), record)},
		{"another name", joined(frameOf(append([]byte("pumice2"), Super(small)[7:]...)), record)},
		{"a record ahead", joined(record, super, record)},
		{"records alone", joined(record, record)},
		{"a superblock with a wrong sum", joined(super[:5], []byte{super[5] ^ 1}, super[6:], record)},
		{"a frame of no byte", joined(make([]byte, 6), super, record)},
		// no record behind it
		{"a superblock alone", super},
		{"a superblock, and blank pages", joined(whole(super, 64), blank, blank)},
		{"a superblock, and bytes that are no frame", joined(super, []byte("other"))},
		{"a superblock, and a frame of no byte", joined(super, make([]byte, 6), record)},
		{"a superblock, and half a record", joined(super, recordOf(Record{1, text(100, 0)})[:43])},
		{"a superblock, and a record with a wrong sum", joined(super, record[:2], []byte{record[2] ^ 1}, record[3:])},
		// a frame behind it that is no record
		{"two superblocks", joined(super, super)},
		{"two superblocks, and a record", joined(super, super, record)},
		{"a superblock behind a record", joined(super, record, super)},
		{"another first byte", noRecord("Q12345678a")},
		{"a small one", noRecord("r12345678a")},
		{"no R", noRecord("\x0012345678a")},
		{"the R alone", noRecord("R")},
		{"another byte alone", noRecord("a")},
		{"8 bytes", noRecord("R1234567")},
		{"a Text of 513 bytes", noRecord("R12345678" + text(513, 0))},
		{"a Text of more", noRecord("R12345678" + text(1015, 0))},
		{"none, then one", joined(super, frameOf([]byte("x")), record)},
		{"one, none, then one", joined(super, record, frameOf([]byte("x")), record)},
		{"none on the next page", joined(whole(joined(super, record), 64), frameOf([]byte("x")))},
	} {
		m := formatted(t, small)
		laid(t, m, c.data)
		refusal(t, c.name, m, api.EUCLEAN)
		refusal(t, c.name+", attached", attached(t, m.Chip()), api.EUCLEAN)
		// A master can be made there nevertheless.
		begun(small, Record{5, "e"}).heldByAll(t, c.name, created(t, m, Record{5, "e"}))
	}
	refusal(t, "not mapped", formatted(t, small), api.EUCLEAN)
}

// TestOpenOffByOne: each byte of the superblock's payload turned, in each bit.
func TestOpenOffByOne(t *testing.T) {
	m := formatted(t, small)
	for i := range Super(small) {
		for bit := range 8 {
			super := Super(small)
			super[i] ^= 1 << bit
			laid(t, m, frameOf(super), recordOf(Record{1, "a"}))
			refusal(t, fmt.Sprintf("byte %d, bit %d", i, bit), m, api.EUCLEAN)
		}
	}
}

// TestOpenOtherChips: pages of one chip on another.
func TestOpenOtherChips(t *testing.T) {
	chips := []api.Geometry{small, {Blocks: 17, Pages: 32, Page: 64, Reserve: 2}, {Blocks: 16, Pages: 64, Page: 64, Reserve: 2}, {Blocks: 16, Pages: 32, Page: 128, Reserve: 2}, {Blocks: 16, Pages: 32, Page: 64, Reserve: 3}}
	for i, from := range chips {
		for j, to := range chips {
			m := formatted(t, to)
			laid(t, m, superOf(from), recordOf(Record{1, "a"}))
			if i == j {
				tells(t, "the same", opened(t, m), Record{1, "a"}, 1)
			} else {
				refusal(t, fmt.Sprint(from, " on ", to), m, api.EUCLEAN)
			}
		}
	}
}

// TestOpenOne: what is one, however its frames lie.
func TestOpenOne(t *testing.T) {
	super := superOf(small)
	a, b, c := Record{1, "a"}, Record{0, ""}, Record{1 << 60, text(512, 0)}
	blank := bytes.Repeat([]byte{0xff}, 64)
	for _, x := range []struct {
		name  string
		data  []byte
		want  Record
		saves int
	}{
		{"one record", joined(super, recordOf(a)), a, 1},
		{"one of 9 bytes", joined(super, recordOf(b)), b, 1},
		{"one of 521 bytes", joined(super, recordOf(c)), c, 1},
		{"several on one page", joined(super, recordOf(a), recordOf(b)), b, 2},
		{"several, the longest last", joined(super, recordOf(a), recordOf(b), recordOf(c)), c, 3},
		{"several, the longest first", joined(super, recordOf(c), recordOf(b), recordOf(a)), a, 3},
		{"the superblock on a page of its own", joined(whole(super, 64), recordOf(a)), a, 1},
		{"a blank page ahead", joined(blank, super, recordOf(a)), a, 1},
		{"blank pages between", joined(whole(super, 64), blank, blank, whole(recordOf(a), 64), blank, recordOf(b)), b, 2},
		{"blank pages behind", joined(whole(joined(super, recordOf(a)), 64), blank, blank), a, 1},
		// bytes behind the last frame that are no frame
		{"other bytes behind", joined(super, recordOf(a), []byte("other")), a, 1},
		{"a frame of no byte behind", joined(super, recordOf(a), make([]byte, 6)), a, 1},
		{"other bytes, then a record", joined(super, recordOf(a), []byte("other"), recordOf(b)), a, 1},
		{"a page of others, then a record", joined(whole(joined(super, recordOf(a)), 64), make([]byte, 64), recordOf(b)), a, 1},
		{"half a record behind", joined(whole(joined(super, recordOf(a)), 64), recordOf(c)[:64]), a, 1},
		{"a record with a wrong sum behind", joined(super, recordOf(a), recordOf(b)[:3], []byte{0}, recordOf(b)[4:]), a, 1},
	} {
		m := formatted(t, small)
		laid(t, m, x.data)
		tells(t, x.name, opened(t, m), x.want, x.saves)
		y := opened(t, attached(t, m.Chip()))
		tells(t, x.name+", attached", y, x.want, x.saves)
		is(t, x.name+": on the chip", onChip(t, m, 0), string(whole(x.data, 64)))
		is(t, x.name+": Save", y.Save(Record{9, "next"}), api.OK)
		tells(t, x.name+", saved", opened(t, attached(t, m.Chip())), Record{9, "next"}, y.Saves())
	}
}

// TestOpenGoesOn: behind frames that lie otherwise than Create lays them, there is room as ever.
func TestOpenGoesOn(t *testing.T) {
	m := formatted(t, small)
	data := joined(superOf(small), recordOf(Record{1, "a"}), recordOf(Record{2, "b"}))
	laid(t, m, data)
	x := opened(t, m)
	is(t, "Save", x.Save(Record{3, "c"}), api.OK)
	tells(t, "Save", x, Record{3, "c"}, 3)
	is(t, "on the chip", onChip(t, m, 0), string(joined(whole(data, 64), whole(recordOf(Record{3, "c"}), 64))))
}

// TestOpenUnreadable: a page that was written, and can't be read.
func TestOpenUnreadable(t *testing.T) {
	m := formatted(t, small)
	x := created(t, m, Record{1, text(512, 0)})
	spoil(t, m, 0)
	refusal(t, "spoilt", m, api.EIO)
	tells(t, "spoilt", x, Record{1, text(512, 0)}, 1)
	darken(t, m.Chip())
	refusal(t, "off", m, api.ENXIO)
	m.Chip().Power()
	refusal(t, "attached", attached(t, m.Chip()), api.EUCLEAN)
	// A master is not asked for there.
	m = formatted(t, small)
	laid(t, m, []byte("other"))
	spoil(t, m, 0)
	refusal(t, "other bytes, spoilt", m, api.EIO)
	// Other logical blocks are nothing to it.
	m = formatted(t, small)
	created(t, m, Record{1, "a"})
	is(t, "Write", m.Write(1, []byte("x")), api.OK)
	spoil(t, m, 1)
	tells(t, "another one spoilt", opened(t, m), Record{1, "a"}, 1)
}

// TestOpenClosed: what stands ahead of a torn page is told.
func TestOpenClosed(t *testing.T) {
	m := formatted(t, small)
	x := created(t, m, Record{1, "a"})
	is(t, "Save", x.Save(Record{2, text(512, 0)}), api.OK)
	m = torn(t, m.Chip())
	tells(t, "closed", opened(t, m), Record{2, text(512, 0)}, 2)
}
