package ebm

import (
	"bytes"
	"strconv"
	"testing"

	"pumice/api"
	"pumice/header"
	"pumice/scan"
)

// TestExample: the chapter's first.
func TestExample(t *testing.T) {
	m := formatted(t, small)
	is(t, "Lebs", m.Lebs(), 12)
	is(t, "Write", m.Write(0, []byte("a")), api.OK)
	is(t, "Write", m.Write(0, []byte("b")), api.OK)
	is(t, "Used", m.Used(0), 2)
	data, errno := m.Read(0, 1)
	is(t, "Read", errno, api.OK)
	is(t, "Read", string(data), "b"+string(bytes.Repeat([]byte{0xff}, 127)))
	data, errno = m.Read(0, 2)
	is(t, "Read", errno, api.OK)
	is(t, "Read", string(data), string(bytes.Repeat([]byte{0xff}, 128)))
	is(t, "Change", m.Change(0, cells("c")), api.OK)
	is(t, "Used", m.Used(0), 1)
	is(t, "Unmap", m.Unmap(0), api.OK)
	is(t, "Used", m.Used(0), 0)
	sound(t, "example", m)
}

// TestExampleOfCuts: the chapter's second.
func TestExampleOfCuts(t *testing.T) {
	for torn := range 3 {
		m := formatted(t, small)
		m.Change(0, cells("a", "b"))
		twin := m.Chip().Clone()
		ops := m.Chip().Ops()
		m.Change(0, cells("c"))
		for at, want := range map[int]string{1: "a", m.Chip().Ops() - ops: "c"} {
			c := twin.Clone()
			m := attached(t, c)
			arm(t, c, api.Fault{At: at, Kind: api.Cut, Torn: torn})
			is(t, "Change", m.Change(0, cells("c")), api.ENXIO)
			c.Power()
			data, errno := attached(t, c).Read(0, 0)
			is(t, "Read", errno, api.OK)
			is(t, "Read at "+strconv.Itoa(at), string(data[:1]), want)
		}
	}
}

func TestWrongArguments(t *testing.T) {
	m := attached(t, mixed(t, small))
	wrongArguments(t, m)
	sound(t, "wrong arguments", m)
	same(t, "lebs", looked(t, m), mixedLebs(t))
	darkened(t, m.chip)
	wrongArguments(t, m)
}

func TestWriteSizes(t *testing.T) {
	m := formatted(t, small)
	last := smallLebs - 1
	whole := bytes.Repeat([]byte{7}, 128)
	for i, data := range [][]byte{nil, {}, {0xff}, []byte("x"), whole[:127], whole} {
		is(t, "Write", m.Write(last, data), api.OK)
		is(t, "Used", m.Used(last), i+1)
		got, errno := m.Read(last, i)
		is(t, "Read", errno, api.OK)
		is(t, "Read", string(got), string(append(bytes.Clone(data), bytes.Repeat([]byte{0xff}, 128-len(data))...)))
	}
	is(t, "Write", m.Write(last, make([]byte, 129)), api.EINVAL)
	is(t, "Used", m.Used(last), 6)
	sound(t, "Write", m)
	is(t, "Used behind Attach", attached(t, m.Chip()).Used(last), 6)
}

// TestWriteUntilFull: a logical block has Pages pages, each of one operation, the first of two.
func TestWriteUntilFull(t *testing.T) {
	m := formatted(t, small)
	for i := range smallRoom {
		ops := m.Chip().Ops()
		is(t, "Write", m.Write(3, []byte{byte(i)}), api.OK)
		is(t, "Ops", m.Chip().Ops()-ops, 1+max(0, 1-i))
	}
	before := looked(t, m)
	ops := m.Chip().Ops()
	is(t, "Write", m.Write(3, nil), api.ENOSPC)
	is(t, "Write", m.Write(3, make([]byte, 129)), api.EINVAL)
	is(t, "Ops", m.Chip().Ops(), ops)
	is(t, "Closed", m.Closed(3), false)
	is(t, "Used", m.Used(3), smallRoom)
	same(t, "lebs", looked(t, m), before)
	is(t, "Write of another", m.Write(4, nil), api.OK)
	sound(t, "Write", m)
}

func TestWriteClosed(t *testing.T) {
	m := attached(t, mixed(t, small))
	ops := m.Chip().Ops()
	is(t, "Closed", m.Closed(2), true)
	is(t, "Write", m.Write(2, []byte("x")), api.ENOSPC)
	is(t, "Ops", m.Chip().Ops(), ops)
	same(t, "lebs", looked(t, m), mixedLebs(t))
	data, errno := m.Read(2, 1)
	is(t, "Read of the torn page", errno, api.OK)
	is(t, "Read of the torn page", string(data), string(bytes.Repeat([]byte{0xff}, 128)))
	is(t, "Change", m.Change(2, cells("c0")), api.OK)
	is(t, "Closed", m.Closed(2), false)
	is(t, "Write", m.Write(2, []byte("x")), api.OK)
	same(t, "lebs", looked(t, m), mixedLebs(t).with(2, leb{pages: text("c0", "x")}))
	sound(t, "Change", m)
}

// TestMapping: a logical block that grows counts with any pages, one that is changed with all of them alone.
func TestMapping(t *testing.T) {
	m := formatted(t, small)
	seqs := map[uint64]int{}
	check := func(what string, n, pages int) {
		t.Helper()
		second, _ := m.chip.Read(scan.Find(scanned(t, m.chip), n), mapPage)
		got, ok := header.ParseMapping(second)
		is(t, what+": a Mapping", ok, true)
		is(t, what+": Leb", got.Leb, n)
		is(t, what+": Pages", got.Pages, pages)
		seqs[got.Seq]++
		is(t, what+": Seqs", seqs[got.Seq], 1)
	}
	m.Write(4, nil)
	m.Write(4, nil)
	check("Write", 4, 0)
	m.Change(4, cells("a", "b", "c"))
	m.Write(4, nil)
	check("Change", 4, 3)
	m.Change(5, nil)
	check("Change", 5, 0)
	arm(t, m.chip, api.Fault{At: 1, Kind: api.Fail})
	m.Write(4, nil)
	check("a copy", 4, 4)
}

func TestUnmap(t *testing.T) {
	m := attached(t, mixed(t, small))
	want := mixedLebs(t)
	for n := range smallLebs {
		ops, good := m.Chip().Ops(), scan.Find(m.blocks, n) >= 0
		is(t, "Unmap", m.Unmap(n), api.OK)
		is(t, "Ops", m.Chip().Ops()-ops, map[bool]int{true: 2, false: 0}[good])
		want = want.with(n, leb{})
		same(t, "lebs", looked(t, m), want)
		is(t, "Unmap again", m.Unmap(n), api.OK)
		sound(t, "Unmap", m)
	}
	same(t, "Counts", counts(m.blocks)[:4], []int{4, 2, 3, 3})
	same(t, "lebs behind Attach", looked(t, attached(t, m.Chip())), make(lebs, smallLebs))
}

func TestChange(t *testing.T) {
	for n := range 5 {
		for _, size := range []int{0, 1, 2, smallRoom - 1, smallRoom} {
			what := "Change(" + strconv.Itoa(n) + ") to " + strconv.Itoa(size)
			m := attached(t, mixed(t, small))
			old, to, ops := scan.Find(m.blocks, n), scan.Least(m.blocks), m.Chip().Ops()
			is(t, what, m.Change(n, cells(many("x", size)...)), api.OK)
			same(t, what, looked(t, m), mixedLebs(t).with(n, leb{pages: text(many("x", size)...)}))
			is(t, what+": where", scan.Find(m.blocks, n), to)
			if old >= 0 {
				ops += 2
				is(t, what+": the old one", m.blocks[old].State, scan.Free)
			}
			is(t, what+": Ops", m.Chip().Ops()-ops, size+1)
			sound(t, what, m)
			is(t, what+": a page behind", m.Write(n, []byte("y")), map[bool]api.Errno{false: api.OK, true: api.ENOSPC}[size == smallRoom])
		}
	}
}

// TestChangeSizes: pages of all sizes; what is handed in stays as it is, and is not kept.
func TestChangeSizes(t *testing.T) {
	m := formatted(t, small)
	room := bytes.Repeat([]byte{5}, 300)
	pages := [][]byte{nil, {}, room[:1], room[:127], room[:128:200], []byte("end")}
	is(t, "Change", m.Change(0, pages), api.OK)
	data := room[10:20]
	is(t, "Write", m.Write(0, data), api.OK)
	is(t, "what was handed in", string(room), string(bytes.Repeat([]byte{5}, 300)))
	want := looked(t, m)
	for i := range room {
		room[i] = 9
	}
	pages[5][0] = 9
	same(t, "lebs", looked(t, m), want)
	got, _ := m.Read(0, 4)
	is(t, "page 4", string(got), string(bytes.Repeat([]byte{5}, 128)))
	got[0] = 1
	same(t, "lebs", looked(t, m), want)
}

// TestAllFull: each logical block is full, and each can be changed, written to and let go yet.
func TestAllFull(t *testing.T) {
	for _, reserve := range []int{0, 2, 4} {
		g := small
		g.Reserve = reserve
		m := formatted(t, g)
		want := make(lebs, m.Lebs())
		fill := func(what string) {
			for n := range m.Lebs() {
				for i := range m.Pages() {
					is(t, "Write", m.Write(n, []byte(what+strconv.Itoa(i))), api.OK)
				}
				want = want.with(n, leb{pages: text(many(what, m.Pages())...)})
			}
		}
		fill("a")
		same(t, "full", looked(t, m), want)
		for n := range m.Lebs() {
			is(t, "Write", m.Write(n, nil), api.ENOSPC)
			is(t, "Change", m.Change(n, cells(many("b", m.Pages())...)), api.OK)
			want = want.with(n, leb{pages: text(many("b", m.Pages())...)})
		}
		same(t, "changed", looked(t, m), want)
		for n := range m.Lebs() {
			is(t, "Unmap", m.Unmap(n), api.OK)
		}
		fill("c")
		same(t, "full again", looked(t, m), want)
		sound(t, "full", m)
		same(t, "attached", looked(t, attached(t, m.Chip())), want)
	}
}

// TestTaken: the Free block with the least Count, of those the first.
func TestTaken(t *testing.T) {
	c := made(t, small)
	for n := range small.Blocks {
		lay(t, c, n, []int{9, 4, 7, 3, 3, 8, 5, 3}[n%8])
	}
	m := attached(t, c)
	for i, want := range []int{3, 4, 7, 11, 12, 15, 1, 9, 6, 14, 2, 10} {
		if i%2 == 0 {
			is(t, "Write", m.Write(i, nil), api.OK)
		} else {
			is(t, "Change", m.Change(i, nil), api.OK)
		}
		is(t, "taken "+strconv.Itoa(i), scan.Find(m.blocks, i), want)
	}
}

// TestOthers: what others do with the chip is no promise's matter, but its Wrong does not grow by the manager.
func TestOthers(t *testing.T) {
	m := formatted(t, small)
	m.Write(0, []byte("a"))
	m.Write(1, []byte("b"))
	marked(m.Chip(), 0, 2)
	is(t, "Spare", m.Spare(), 0)
	is(t, "Write to a block that others marked", m.Write(0, []byte("c")), api.OK)
	is(t, "its new place", scan.Find(m.blocks, 0), 3)
	same(t, "lebs", looked(t, m)[:2], lebs{{pages: text("a", "c")}, {pages: text("b")}})
	sound(t, "marks", m)

	m = formatted(t, small)
	m.Write(0, []byte("a"))
	marked(m.Chip(), 0)
	is(t, "Unmap of a block that others marked", m.Unmap(0), api.OK)
	sound(t, "marks", m)

	m = formatted(t, small)
	m.Write(0, []byte("a"))
	other := attached(t, m.Chip())
	other.Write(0, []byte("b"))
	other.Write(1, []byte("c"))
	is(t, "Write behind another manager", m.Write(0, []byte("d")), api.ENXIO)
	is(t, "any call then", m.Unmap(5), api.ENXIO)
	same(t, "lebs", looked(t, other)[:2], lebs{{pages: text("a", "b")}, {pages: text("c")}})
	sound(t, "another manager", other)

	m = formatted(t, small)
	m.Write(0, []byte("a"))
	arm(t, m.Chip(), api.Fault{At: 1, Kind: api.Fail})
	m.Chip().Erase(0)
	m.Write(5, []byte("b"))
	for range 2 {
		data, errno := m.Read(0, 0)
		is(t, "Read of what others spoilt", errno, api.EIO)
		is(t, "Read of what others spoilt", len(data), 0)
	}
	is(t, "Write elsewhere", m.Write(5, []byte("c")), api.OK)
	data, errno := m.Read(5, 1)
	is(t, "Read elsewhere", errno, api.OK)
	is(t, "Read elsewhere", string(bytes.TrimRight(data, "\xff")), "c")
	m = formatted(t, small)
	m.Write(0, []byte("a"))
	m.blocks[15].Count = 30
	arm(t, m.Chip(), api.Fault{At: 1, Kind: api.Fail})
	m.Chip().Erase(0)
	_, errno = m.Wear()
	is(t, "Wear of what others spoilt", errno, api.ENXIO)
	is(t, "Wrong", m.Chip().Wrong(), 0)
}

func TestFailure(t *testing.T) {
	err := failed("program", 7, api.EIO)
	is(t, "text", err.Error(), "program 7: pumice error 5")
	is(t, "errno", errnoOf(err), api.EIO)
	is(t, "errno of nil", errnoOf(failed("program", 7, api.OK)), api.OK)
}
