package master

import (
	"bytes"
	"fmt"
	"math"
	"strings"
	"testing"

	"pumice/api"
	"pumice/ebm"
	"pumice/nand"
)

func TestExample(t *testing.T) {
	m := formatted(t, small)
	x := created(t, m, Record{1, "a"})
	tells(t, "Create", x, Record{1, "a"}, 1)
	is(t, "Save", x.Save(Record{2, "b"}), api.OK)
	tells(t, "Save", x, Record{2, "b"}, 2)
	tells(t, "Open", opened(t, m), Record{2, "b"}, 2)
}

// TestBytes: what stands on the chip, byte by byte; the sums were made by another program.
func TestBytes(t *testing.T) {
	x := created(t, formatted(t, small), Record{0x0102030405060708, "a"})
	is(t, "Save", x.Save(Record{}), api.OK)
	got := onChip(t, x.m, 0)
	is(t, "bytes", len(got), 128)
	is(t, "the superblock's size", got[:2], "\x0f\x00")
	is(t, "the superblock's sum", got[2:6], "\xe4\x0d\xe0\x56")
	is(t, "the superblock", got[6:21], "pumice1\x10\x00\x20\x00\x40\x00\x02\x00")
	is(t, "a record's size", got[21:23], "\x0a\x00")
	is(t, "a record's sum", got[23:27], "\x44\x8c\x74\x1b")
	is(t, "a record", got[27:37], "R\x08\x07\x06\x05\x04\x03\x02\x01a")
	is(t, "filling", got[37:64], strings.Repeat("\xff", 27))
	is(t, "the next record's size", got[64:66], "\x09\x00")
	is(t, "the next record's sum", got[66:70], "\x5e\x7d\xad\xba")
	is(t, "the next record", got[70:79], "R"+strings.Repeat("\x00", 8))
	is(t, "filling", got[79:], strings.Repeat("\xff", 49))
}

func TestSuper(t *testing.T) {
	for _, c := range []struct {
		g    api.Geometry
		want string
	}{
		{api.Geometry{Blocks: 16, Pages: 8, Page: 256}, "\x10\x00\x08\x00\x00\x01\x00\x00"},
		{api.Geometry{Blocks: 16, Pages: 32, Page: 64}, "\x10\x00\x20\x00\x40\x00\x00\x00"},
		{api.Geometry{Blocks: 256, Pages: 64, Page: 512, Reserve: 64}, "\x00\x01\x40\x00\x00\x02\x40\x00"},
		{api.Geometry{Blocks: 17, Pages: 16, Page: 128, Reserve: 3}, "\x11\x00\x10\x00\x80\x00\x03\x00"},
		// no chip has these: the lowest bytes
		{api.Geometry{}, "\x00\x00\x00\x00\x00\x00\x00\x00"},
		{api.Geometry{Blocks: 0x1234, Pages: 0xffff, Page: 0x10000, Reserve: 0x56789a}, "\x34\x12\xff\xff\x00\x00\x9a\x78"},
		{api.Geometry{Blocks: -1, Pages: -2, Page: math.MinInt, Reserve: math.MaxInt}, "\xff\xff\xfe\xff\x00\x00\xff\xff"},
	} {
		is(t, fmt.Sprintf("Super(%+v)", c.g), string(Super(c.g)), "pumice1"+c.want)
	}
}

// TestSuperIsNew: nobody sees what is written into it.
func TestSuperIsNew(t *testing.T) {
	b := Super(small)
	clear(b[:cap(b)])
	is(t, "Super", string(frameOf(Super(small))), string(superOf(small)))
	created(t, formatted(t, small), Record{})
}

// TestFirstAndLastGeometry: each has room for the greatest record.
func TestFirstAndLastGeometry(t *testing.T) {
	for _, g := range []api.Geometry{small, tight, large, {Blocks: 16, Pages: 8, Page: 512}, {Blocks: 16, Pages: 16, Page: 128, Reserve: 4}} {
		r := Record{math.MaxUint64, text(512, 0)}
		want := begun(g, r)
		x := created(t, formatted(t, g), r)
		want.heldByAll(t, fmt.Sprint(g), x)
		next := Record{0, text(512, 1)}
		is(t, "Save", x.Save(next), api.OK)
		want.saved(next).heldByAll(t, fmt.Sprint(g), x)
	}
}

func TestNil(t *testing.T) {
	long := Record{1, text(513, 0)}
	for _, r := range []Record{{}, {1, "a"}, long} {
		x, errno := Create(nil, r)
		is(t, "Create", errno, api.EFAULT)
		is(t, "Create", x, nil)
		is(t, "Save", (*Master)(nil).Save(r), api.EFAULT)
	}
	x, errno := Open(nil)
	is(t, "Open", errno, api.EFAULT)
	is(t, "Open", x, nil)
	tells(t, "nil", nil, Record{}, 0)
}

// TestTexts: of no byte up to 512, and more; each byte may be in them.
func TestTexts(t *testing.T) {
	for _, g := range []api.Geometry{small, tight} {
		m := formatted(t, g)
		for size := range 513 {
			what := fmt.Sprintf("page %d, Text of %d bytes", g.Page, size)
			r, next := Record{uint64(size), text(size, 0)}, Record{uint64(size) << 40, text(size, 1)}
			want := begun(g, r)
			x := created(t, m, r)
			want.held(t, what, x)
			is(t, what, x.Save(next), api.OK)
			want.saved(next).held(t, what, x)
		}
	}
	m := formatted(t, large)
	x := created(t, m, Record{})
	all := ""
	for b := range 256 {
		all += string([]byte{byte(b)})
	}
	for _, r := range []Record{{1, all}, {2, strings.Repeat("\xff", 512)}, {3, strings.Repeat("\x00", 512)}, {4, "R"}, {5, string(Super(large))}} {
		is(t, "Save", x.Save(r), api.OK)
		tells(t, "Open", opened(t, m), r, x.Saves())
	}
}

func TestTextsTooLong(t *testing.T) {
	m := formatted(t, small)
	for _, size := range []int{513, 514, 1015, 1016, 1024, 1 << 20} {
		x, errno := Create(m, Record{1, text(size, 0)})
		is(t, "Create", errno, api.EINVAL)
		is(t, "Create", x, nil)
		is(t, "Used", m.Used(0), 0)
	}
	x := created(t, m, Record{1, "a"})
	want := begun(small, Record{1, "a"})
	ops := m.Chip().Ops()
	for _, size := range []int{513, 514, 1015, 1016, 1024, 1 << 20} {
		is(t, "Save", x.Save(Record{2, text(size, 0)}), api.EINVAL)
		_, errno := Create(m, Record{2, text(size, 0)})
		is(t, "Create", errno, api.EINVAL)
	}
	want.heldByAll(t, "Texts that are too long", x)
	is(t, "Ops", m.Chip().Ops(), ops)
}

func TestEpochs(t *testing.T) {
	m := formatted(t, small)
	x := created(t, m, Record{math.MaxUint64, ""})
	tells(t, "Create", opened(t, m), Record{math.MaxUint64, ""}, 1)
	for i, epoch := range []uint64{0, 1, math.MaxUint64, 0xff, 0x100, 1 << 32, 1 << 63, 1<<63 - 1, 0x0102030405060708, 0} {
		is(t, "Save", x.Save(Record{Epoch: epoch}), api.OK)
		tells(t, "Save", x, Record{Epoch: epoch}, i+2)
		tells(t, "Open", opened(t, m), Record{Epoch: epoch}, i+2)
	}
}

// TestLastCounts: not the one with the greatest Epoch, nor the longest; the same one may come again.
func TestLastCounts(t *testing.T) {
	m := formatted(t, small)
	x := created(t, m, Record{9, "long text"})
	for i, r := range []Record{{5, "b"}, {5, "b"}, {7, ""}, {7, "a"}, {1, "a"}} {
		is(t, "Save", x.Save(r), api.OK)
		tells(t, "Open", opened(t, m), r, i+2)
	}
}

// TestPowerOff: each call, also behind the power is on again, until the chip is attached.
func TestPowerOff(t *testing.T) {
	m := formatted(t, small)
	x := created(t, m, Record{1, "a"})
	refuses := func(what string) {
		t.Helper()
		got, errno := Create(m, Record{2, "b"})
		is(t, what+": Create", errno, api.ENXIO)
		is(t, what+": Create", got, nil)
		got, errno = Open(m)
		is(t, what+": Open", errno, api.ENXIO)
		is(t, what+": Open", got, nil)
		is(t, what+": Save", x.Save(Record{2, "b"}), api.ENXIO)
		is(t, what+": Save", x.Save(Record{2, text(512, 0)}), api.ENXIO)
		is(t, what+": Save of a Text that is too long", x.Save(Record{2, text(513, 0)}), api.EINVAL)
		_, errno = Create(m, Record{2, text(513, 0)})
		is(t, what+": Create of a Text that is too long", errno, api.EINVAL)
		tells(t, what, x, Record{1, "a"}, 1)
	}
	darken(t, m.Chip())
	refuses("off")
	m.Chip().Power()
	refuses("on again")
	begun(small, Record{1, "a"}).heldByAll(t, "attached", opened(t, attached(t, m.Chip())))
}

// TestPowerOffOfAll: where no record has room, or what stands there is none.
func TestPowerOffOfAll(t *testing.T) {
	m := formatted(t, tight)
	x := created(t, m, Record{1, "a"})
	for x.Saves() < 6 {
		is(t, "Save", x.Save(Record{2, "b"}), api.OK)
	}
	darken(t, m.Chip())
	is(t, "Save", x.Save(Record{3, "c"}), api.ENXIO)
	tells(t, "off", x, Record{2, "b"}, 6)
	m = formatted(t, tight)
	darken(t, m.Chip())
	_, errno := Open(m)
	is(t, "Open of nothing", errno, api.ENXIO)
	_, errno = Create(m, Record{})
	is(t, "Create over nothing", errno, api.ENXIO)
}

// TestSpent: what stands there is read; EROFS comes ahead of ENXIO.
func TestSpent(t *testing.T) {
	m := formatted(t, small)
	x := created(t, m, Record{1, "a"})
	is(t, "Save", x.Save(Record{2, "b"}), api.OK)
	want := begun(small, Record{1, "a"}).saved(Record{2, "b"})
	spend(t, m)
	refuses := func(what string, m *ebm.Manager, x *Master) {
		t.Helper()
		got, errno := Create(m, Record{3, "c"})
		is(t, what+": Create", errno, api.EROFS)
		is(t, what+": Create", got, nil)
		is(t, what+": Save", x.Save(Record{3, "c"}), api.EROFS)
		is(t, what+": Save of much", x.Save(Record{3, text(512, 0)}), api.EROFS)
		is(t, what+": Save of too much", x.Save(Record{3, text(513, 0)}), api.EINVAL)
		_, errno = Create(m, Record{3, text(513, 0)})
		is(t, what+": Create of too much", errno, api.EINVAL)
		tells(t, what, x, want.newest, want.saves)
	}
	refuses("spent", m, x)
	want.heldByAll(t, "spent", x)
	again := attached(t, m.Chip())
	refuses("attached", again, opened(t, again))
	want.heldByAll(t, "attached", x)
	darken(t, m.Chip())
	refuses("off", m, x)
	_, errno := Open(m)
	is(t, "off: Open", errno, api.ENXIO)
}

// TestSpentEmpty: a spent manager without a master.
func TestSpentEmpty(t *testing.T) {
	m := formatted(t, small)
	spend(t, m)
	_, errno := Open(m)
	is(t, "Open", errno, api.EUCLEAN)
	_, errno = Create(m, Record{})
	is(t, "Create", errno, api.EROFS)
}

// TestCreateOver: whatever the logical block 0 had is gone.
func TestCreateOver(t *testing.T) {
	r := Record{7, "new"}
	for _, c := range []struct {
		name string
		over func(t *testing.T, m *ebm.Manager) *ebm.Manager
	}{
		{"nothing", func(t *testing.T, m *ebm.Manager) *ebm.Manager { return m }},
		{"no pages", func(t *testing.T, m *ebm.Manager) *ebm.Manager {
			laid(t, m)
			return m
		}},
		{"other bytes", func(t *testing.T, m *ebm.Manager) *ebm.Manager {
			is(t, "Write", m.Write(0, []byte("other")), api.OK)
			return m
		}},
		{"all pages", func(t *testing.T, m *ebm.Manager) *ebm.Manager {
			laid(t, m, make([]byte, m.Pages()*m.Page()))
			return m
		}},
		{"a master", func(t *testing.T, m *ebm.Manager) *ebm.Manager {
			created(t, m, Record{1, "old"})
			return m
		}},
		{"a master with records", func(t *testing.T, m *ebm.Manager) *ebm.Manager {
			x := created(t, m, Record{9, text(300, 0)})
			is(t, "Save", x.Save(Record{9, text(200, 0)}), api.OK)
			return m
		}},
		{"one that is closed", func(t *testing.T, m *ebm.Manager) *ebm.Manager {
			created(t, m, Record{1, "old"})
			return torn(t, m.Chip())
		}},
		{"other bytes that are closed", func(t *testing.T, m *ebm.Manager) *ebm.Manager {
			is(t, "Write", m.Write(0, []byte("other")), api.OK)
			return torn(t, m.Chip())
		}},
		{"pages that can't be read", func(t *testing.T, m *ebm.Manager) *ebm.Manager {
			created(t, m, Record{1, "old"})
			spoil(t, m, 0)
			return m
		}},
	} {
		m := formatted(t, small)
		for leb := 1; leb < m.Lebs(); leb += 2 {
			is(t, "Write", m.Write(leb, []byte(text(leb, leb))), api.OK)
		}
		had := others(t, m)
		m = c.over(t, m)
		x := created(t, m, r)
		is(t, c.name+": Closed", m.Closed(0), false)
		begun(small, r).heldByAll(t, c.name, x)
		is(t, c.name+": Save", x.Save(Record{8, "next"}), api.OK)
		begun(small, r).saved(Record{8, "next"}).heldByAll(t, c.name, x)
		is(t, c.name+": others", others(t, m), had)
	}
}

// TestSaveUntilFull: behind the others, as long as there is room, then alone, and so on.
func TestSaveUntilFull(t *testing.T) {
	for _, g := range []api.Geometry{small, tight, {Blocks: 16, Pages: 16, Page: 128}} {
		for _, size := range []int{0, 1, 49, 50, 200, 241, 242, 497, 512} {
			what := fmt.Sprintf("page %d, Texts of %d bytes", g.Page, size)
			x := created(t, formatted(t, g), Record{0, text(size, 0)})
			want := begun(g, Record{0, text(size, 0)})
			alone := 0
			for i := 1; i < 100; i++ {
				r := Record{uint64(i), text(size, i)}
				is(t, what, x.Save(r), api.OK)
				want = want.saved(r)
				want.held(t, fmt.Sprint(what, ", ", i), x)
				if want.saves == 1 {
					alone++
				}
			}
			if alone < 3 {
				t.Errorf("%s: %d times alone", what, alone)
			}
			want.heldByAll(t, what, x)
		}
	}
}

// TestSaveToTheLastByte: a record that just fills the logical block is behind the others, one of a byte more is alone.
func TestSaveToTheLastByte(t *testing.T) {
	for more := range 2 {
		m := formatted(t, tight) // 6 pages of 256 bytes
		x := created(t, m, Record{1, text(512, 0)})
		is(t, "Save", x.Save(Record{2, "b"}), api.OK)
		is(t, "Used", m.Used(0), 4)
		r := Record{3, text(2*256-15+more, 0)}
		is(t, "Save", x.Save(r), api.OK)
		if more == 0 {
			tells(t, "just", x, r, 3)
			is(t, "Used", m.Used(0), 6)
		} else {
			tells(t, "a byte more", x, r, 1)
			is(t, "Used", m.Used(0), 3)
		}
		tells(t, "Open", opened(t, m), r, x.Saves())
	}
}

// TestShortBehindLong: there is room for a short record where there was none for a long one.
func TestShortBehindLong(t *testing.T) {
	m := formatted(t, tight)
	x := created(t, m, Record{1, ""})
	want := begun(tight, Record{1, ""})
	for i, size := range []int{400, 400, 100, 10, 512, 512, 1, 241, 242, 0} {
		r := Record{uint64(i), text(size, i)}
		is(t, "Save", x.Save(r), api.OK)
		want = want.saved(r)
		want.heldByAll(t, fmt.Sprint("Save ", i), x)
	}
}

// TestSaveBehindOpen: also by another manager; the bytes go on where they were.
func TestSaveBehindOpen(t *testing.T) {
	m := formatted(t, small)
	created(t, m, Record{1, "a"})
	want := begun(small, Record{1, "a"})
	for i := range 60 {
		if i%3 == 0 {
			m = attached(t, m.Chip())
		}
		x := opened(t, m)
		r := Record{uint64(i), text(i*7%300, i)}
		is(t, "Save", x.Save(r), api.OK)
		want = want.saved(r)
		want.held(t, fmt.Sprint("Save ", i), x)
	}
}

// TestTwoMasters: of one manager: each Save is behind what stands on the chip, whoever wrote it.
func TestTwoMasters(t *testing.T) {
	m := formatted(t, small)
	l := []*Master{created(t, m, Record{1, "a"}), opened(t, m)}
	want := begun(small, Record{1, "a"})
	for i := range 100 {
		x := l[i*i%3%2]
		r := Record{uint64(i), text(i*11%200, i)}
		is(t, "Save", x.Save(r), api.OK)
		want = want.saved(r)
		want.held(t, fmt.Sprint("Save ", i), x)
	}
	created(t, m, Record{1, "other"})
	is(t, "Save", l[0].Save(Record{2, "b"}), api.OK)
	begun(small, Record{1, "other"}).saved(Record{2, "b"}).heldByAll(t, "created anew", l[0])
}

// TestSaveOfBroken: where nothing can be appended, the record is alone.
func TestSaveOfBroken(t *testing.T) {
	first, second := Record{1, "a"}, Record{2, "b"}
	stands := joined(superOf(small), recordOf(first), recordOf(second))
	half := recordOf(Record{3, text(100, 0)})[:64]
	for _, c := range []struct {
		name string
		data []byte
	}{
		{"half a record", joined(whole(stands, 64), half)},
		{"noughts", joined(whole(stands, 64), make([]byte, 64))},
		{"a frame of no byte", joined(stands, make([]byte, 6))},
		{"filling with another byte", joined(stands, []byte("\xff\xff\x00"))},
	} {
		m := formatted(t, small)
		laid(t, m, c.data)
		x := opened(t, m)
		tells(t, c.name, x, second, 2)
		is(t, c.name+": Save", x.Save(Record{4, "d"}), api.OK)
		begun(small, Record{4, "d"}).heldByAll(t, c.name, x)
		is(t, c.name+": Save", x.Save(Record{5, "e"}), api.OK)
		begun(small, Record{4, "d"}).saved(Record{5, "e"}).heldByAll(t, c.name, x)
	}
}

// TestSaveOfClosed: likewise, behind a torn page.
func TestSaveOfClosed(t *testing.T) {
	for _, used := range []int{1, 5} {
		m := formatted(t, small)
		x := created(t, m, Record{1, "a"})
		for x.Saves() < used {
			is(t, "Save", x.Save(Record{2, "b"}), api.OK)
		}
		r := x.Record()
		m = torn(t, m.Chip())
		x = opened(t, m)
		tells(t, "closed", x, r, used)
		is(t, "Save", x.Save(Record{3, "c"}), api.OK)
		is(t, "Closed", m.Closed(0), false)
		begun(small, Record{3, "c"}).heldByAll(t, "closed", x)
		is(t, "Save", x.Save(Record{4, "d"}), api.OK)
		begun(small, Record{3, "c"}).saved(Record{4, "d"}).heldByAll(t, "closed", x)
	}
}

// TestWear: wear steps move the logical block, and change nothing of it; one that was closed is open then.
func TestWear(t *testing.T) {
	m := formatted(t, small)
	created(t, m, Record{1, "a"})
	m = torn(t, m.Chip())
	x, want := opened(t, m), begun(small, Record{1, "a"})
	moved := 0
	for i := 0; m.Closed(0) && i < 1000; i++ {
		is(t, "Change", m.Change(1+i%3, [][]byte{{byte(i)}}), api.OK)
		if ok, errno := m.Wear(); ok {
			is(t, "Wear", errno, api.OK)
			moved++
		}
	}
	if moved == 0 || m.Closed(0) {
		t.Fatalf("moved %d times, closed: %v", moved, m.Closed(0))
	}
	want.heldByAll(t, "moved", x)
	is(t, "Save", x.Save(Record{2, "b"}), api.OK)
	want.saved(Record{2, "b"}).heldByAll(t, "moved", x)
}

// TestSaveOverOthers: where others took the place meanwhile, or spoilt it, the record is alone, and can be read.
func TestSaveOverOthers(t *testing.T) {
	for name, do := range map[string]func(t *testing.T, m *ebm.Manager){
		"let go":       func(t *testing.T, m *ebm.Manager) { is(t, "Unmap", m.Unmap(0), api.OK) },
		"no pages":     func(t *testing.T, m *ebm.Manager) { laid(t, m) },
		"other bytes":  func(t *testing.T, m *ebm.Manager) { laid(t, m, []byte("other")) },
		"other frames": func(t *testing.T, m *ebm.Manager) { laid(t, m, frameOf([]byte("other"))) },
		"spoilt":       func(t *testing.T, m *ebm.Manager) { spoil(t, m, 0) },
		"behind":       func(t *testing.T, m *ebm.Manager) { is(t, "Write", m.Write(0, frameOf([]byte("x"))), api.OK) },
	} {
		m := formatted(t, small)
		x := created(t, m, Record{1, "a"})
		do(t, m)
		tells(t, name, x, Record{1, "a"}, 1)
		is(t, name+": Save", x.Save(Record{2, "b"}), api.OK)
		begun(small, Record{2, "b"}).heldByAll(t, name, x)
	}
}

// TestLooksDoNothing: Open, Record and Saves make no operation of the chip; a short Save makes one.
func TestLooksDoNothing(t *testing.T) {
	m := formatted(t, small)
	x := created(t, m, Record{1, "a"})
	ops := m.Chip().Ops()
	tells(t, "looks", opened(t, m), x.Record(), x.Saves())
	is(t, "Ops", m.Chip().Ops(), ops)
	is(t, "Save", x.Save(Record{2, "b"}), api.OK)
	is(t, "Ops of a Save", m.Chip().Ops(), ops+1)
	is(t, "Save", x.Save(Record{2, text(100, 0)}), api.OK)
	is(t, "Ops of a longer one", m.Chip().Ops(), ops+3)
}

// TestTwoChips: what is done with one is nothing to the other.
func TestTwoChips(t *testing.T) {
	a := created(t, formatted(t, small), Record{1, "a"})
	b := created(t, formatted(t, small), Record{2, "b"})
	is(t, "Save", a.Save(Record{3, "c"}), api.OK)
	begun(small, Record{2, "b"}).heldByAll(t, "the other", b)
	c := a.m.Chip().Clone()
	y := opened(t, attached(t, c))
	is(t, "Save", y.Save(Record{4, "d"}), api.OK)
	begun(small, Record{1, "a"}).saved(Record{3, "c"}).heldByAll(t, "the one that was cloned", a)
	tells(t, "the clone", opened(t, attached(t, c)), Record{4, "d"}, 3)
}

// TestSameAnswers: the same calls have the same answers, and leave the same chips.
func TestSameAnswers(t *testing.T) {
	play := func() ([]byte, *nand.Chip) {
		m := formatted(t, tight)
		x := created(t, m, Record{1, "a"})
		for i := range 40 {
			x.Save(Record{uint64(i), text(i*17%513, i)})
		}
		return []byte(onChip(t, m, 0)), m.Chip()
	}
	a, c := play()
	b, d := play()
	is(t, "bytes", bytes.Equal(a, b), true)
	is(t, "Ops", c.Ops(), d.Ops())
}
