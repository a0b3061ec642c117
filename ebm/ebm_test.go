package ebm

import (
	"bytes"
	"reflect"
	"slices"
	"strconv"
	"strings"
	"testing"

	"pumice/api"
	"pumice/header"
	"pumice/nand"
	"pumice/scan"
)

// small: the geometry of the chapter's examples: 12 logical blocks of 14 pages.
var small = api.Geometry{Blocks: 16, Pages: 16, Page: 128, Reserve: 2}

const (
	smallLebs = 12
	smallRoom = 14
)

func is[T comparable](t *testing.T, what string, got, want T) {
	t.Helper()
	if got != want {
		t.Errorf("%s: %+v, not %+v", what, got, want)
	}
}

func same(t *testing.T, what string, got, want any) {
	t.Helper()
	if !reflect.DeepEqual(got, want) {
		t.Errorf("%s: %+v, not %+v", what, got, want)
	}
}

// leb: what a logical block has.
type leb struct {
	pages  string // without the filling, each ended by a stroke
	closed bool
}

// lebs: all of a chip, in order.
type lebs []leb

// with: these lebs, but one of them is another.
func (l lebs) with(n int, b leb) lebs {
	l = slices.Clone(l)
	l[n] = b
	return l
}

// text: pages as leb keeps them.
func text(pages ...string) string {
	var b strings.Builder
	for _, p := range pages {
		b.WriteString(p + "/")
	}
	return b.String()
}

// cells: pages as Change takes them.
func cells(pages ...string) [][]byte {
	var l [][]byte
	for _, p := range pages {
		l = append(l, []byte(p))
	}
	return l
}

// many: so many pages that differ.
func many(what string, n int) []string {
	var l []string
	for i := range n {
		l = append(l, what+strconv.Itoa(i))
	}
	return l
}

// looked: what a manager tells of all logical blocks. Behind Used pages all others must be blank.
func looked(t *testing.T, m *Manager) lebs {
	t.Helper()
	var l lebs
	for n := range m.Lebs() {
		b := leb{closed: m.Closed(n)}
		for page := range m.Pages() {
			data, errno := m.Read(n, page)
			if errno != api.OK || len(data) != m.Page() {
				t.Fatalf("Read(%d, %d): %d bytes, %d", n, page, len(data), errno)
			}
			got := string(bytes.TrimRight(data, "\xff"))
			if page < m.Used(n) {
				b.pages += got + "/"
			} else if got != "" {
				t.Errorf("Read(%d, %d): %q, but Used is %d", n, page, got, m.Used(n))
			}
		}
		l = append(l, b)
	}
	return l
}

// scanned: what stands on a chip.
func scanned(t *testing.T, c *nand.Chip) []scan.Block {
	t.Helper()
	l, errno := scan.Scan(c)
	if errno != api.OK {
		t.Fatalf("Scan: %d", errno)
	}
	return l
}

// sound: the manager keeps just what stands on its chip, and never used it wrongly.
func sound(t *testing.T, what string, m *Manager) {
	t.Helper()
	same(t, what+": blocks", m.blocks, scanned(t, m.chip))
	is(t, what+": Wrong", m.chip.Wrong(), 0)
}

// made: a chip on which nothing stands.
func made(t *testing.T, g api.Geometry) *nand.Chip {
	t.Helper()
	c, errno := nand.New(g, nil)
	if errno != api.OK {
		t.Fatalf("New: %d", errno)
	}
	return c
}

// formatted: a manager over a chip that was formatted new.
func formatted(t *testing.T, g api.Geometry) *Manager {
	t.Helper()
	m, errno := Format(made(t, g))
	if errno != api.OK {
		t.Fatalf("Format: %d", errno)
	}
	return m
}

// attached: a manager over a chip that can be attached.
func attached(t *testing.T, c *nand.Chip) *Manager {
	t.Helper()
	m, errno := Attach(c)
	if errno != api.OK {
		t.Fatalf("Attach: %d", errno)
	}
	return m
}

// darkened: a chip whose power is off; nothing else changed on it.
func darkened(t *testing.T, c *nand.Chip) *nand.Chip {
	t.Helper()
	arm(t, c, api.Fault{At: 1, Kind: api.Cut})
	for n := range c.Geometry().Blocks {
		if !c.Bad(n) {
			is(t, "Erase", c.Erase(n), api.ENXIO)
			return c
		}
	}
	t.Fatal("no block is left")
	return c
}

func arm(t *testing.T, c *nand.Chip, plan ...api.Fault) {
	t.Helper()
	is(t, "Arm", c.Arm(plan), api.OK)
}

// marked: a chip with blocks that are marked.
func marked(c *nand.Chip, blocks ...int) *nand.Chip {
	for _, n := range blocks {
		c.Mark(n)
	}
	return c
}

// lay: a block's pages, as they are told: a Count, a Mapping, a text; torn ones by "!".
func lay(t *testing.T, c *nand.Chip, block int, pages ...any) {
	t.Helper()
	for _, p := range pages {
		var data []byte
		want := api.OK
		switch x := p.(type) {
		case int:
			data, _ = header.Count(x, c.Geometry().Page)
		case header.Map:
			data, _ = header.Mapping(x, c.Geometry().Page)
		case string:
			data = []byte(x)
			if x == "!" {
				arm(t, c, api.Fault{At: 1, Kind: api.Fail})
				want = api.EIO
			}
		}
		is(t, "Program", c.Program(block, c.Next(block), data), want)
	}
	arm(t, c)
}

// anys: texts as lay takes them.
func anys(l []string) []any {
	var out []any
	for _, s := range l {
		out = append(out, s)
	}
	return out
}

// counts: of all blocks.
func counts(l []scan.Block) []int {
	var out []int
	for _, b := range l {
		out = append(out, b.Count)
	}
	return out
}

func TestFormatNew(t *testing.T) {
	m := formatted(t, small)
	is(t, "Ops", m.Chip().Ops(), 2*small.Blocks)
	for n, b := range scanned(t, m.Chip()) {
		same(t, "block "+strconv.Itoa(n), b, scan.Block{State: scan.Free, Count: 1})
	}
	same(t, "lebs", looked(t, m), make(lebs, smallLebs))
	sound(t, "Format", m)
	m.Write(0, nil)
	is(t, "first Seq", scanned(t, m.Chip())[0].Seq, 1)
}

func TestFormatErrors(t *testing.T) {
	m, errno := Format(nil)
	is(t, "nil", errno, api.EFAULT)
	is(t, "nil", m, nil)
	m, errno = Format(darkened(t, made(t, small)))
	is(t, "off", errno, api.ENXIO)
	is(t, "off", m, nil)
	c := marked(made(t, small), 3, 7, 15)
	before := scanned(t, c)
	m, errno = Format(c)
	is(t, "spent", errno, api.EROFS)
	is(t, "spent", m, nil)
	is(t, "spent: Ops", c.Ops(), 0)
	same(t, "spent: blocks", scanned(t, c), before)
	m, errno = Format(darkened(t, c))
	is(t, "spent and off", errno, api.ENXIO)
	is(t, "spent and off", m, nil)
}

func TestFormatWithBadBlocks(t *testing.T) {
	c := marked(made(t, small), 3, 7)
	m, errno := Format(c)
	is(t, "Format", errno, api.OK)
	is(t, "Spare", m.Spare(), 0)
	is(t, "Spent", m.Spent(), false)
	is(t, "Ops", c.Ops(), 2*14)
	is(t, "Erases", c.Erases(3), 0)
	sound(t, "Format", m)
}

// TestFormatAgain: Counts go on where they are told, and begin at 0 elsewhere, whatever scan's mean is.
func TestFormatAgain(t *testing.T) {
	c := made(t, small)
	lay(t, c, 0, 40)
	lay(t, c, 1, 50, header.Map{Leb: 3, Seq: 8}, "a")
	lay(t, c, 2, 60, "no header")
	lay(t, c, 3, "no count", header.Map{Leb: 4, Seq: 2})
	lay(t, c, 4, "!")
	lay(t, c, 5, 70, header.Map{Leb: 3, Seq: 7}, "old")
	lay(t, c, 6, 80)
	c.Mark(6)
	m, errno := Format(c)
	is(t, "Format", errno, api.OK)
	same(t, "Counts", counts(scanned(t, c)), []int{41, 51, 61, 1, 1, 71, 0, 1, 1, 1, 1, 1, 1, 1, 1, 1})
	same(t, "lebs", looked(t, m), make(lebs, smallLebs))
	sound(t, "Format", m)
	m, _ = Format(c)
	same(t, "Counts", counts(scanned(t, c))[:7], []int{42, 52, 62, 2, 2, 72, 0})
	sound(t, "Format", m)
}

// TestFormatLastCount: no page can tell a Count above 2^31 - 1: such a block is worn out.
func TestFormatLastCount(t *testing.T) {
	c := made(t, small)
	lay(t, c, 0, 1<<31-2)
	lay(t, c, 1, 1<<31-1)
	m, errno := Format(c)
	is(t, "Format", errno, api.OK)
	same(t, "blocks", m.blocks[:3], []scan.Block{{State: scan.Free, Count: 1<<31 - 1}, {State: scan.Bad}, {State: scan.Free, Count: 1}})
	sound(t, "Format", m)
}

func TestAttachErrors(t *testing.T) {
	m, errno := Attach(nil)
	is(t, "nil", errno, api.EFAULT)
	is(t, "nil", m, nil)
	for _, c := range []*nand.Chip{made(t, small), formatted(t, small).chip, marked(made(t, small), 1, 2, 3, 4)} {
		m, errno = Attach(darkened(t, c))
		is(t, "off", errno, api.ENXIO)
		is(t, "off", m, nil)
	}
}

func TestAttachNew(t *testing.T) {
	m := attached(t, made(t, small))
	for n, b := range scanned(t, m.Chip()) {
		same(t, "block "+strconv.Itoa(n), b, scan.Block{State: scan.Free, Count: 1})
	}
	sound(t, "Attach", m)
}

// TestAttachFreesSpoilt: and leaves all others as they are.
func TestAttachFreesSpoilt(t *testing.T) {
	c := mixed(t, small)
	ops := c.Ops()
	m := attached(t, c)
	is(t, "Ops", c.Ops()-ops, 2*4)
	same(t, "lebs", looked(t, m), mixedLebs(t))
	same(t, "Counts", counts(m.blocks), []int{3, 1, 2, 2, 4, 5, 5, 12, 4, 12, 9, 9, 6, 6, 8, 4})
	for n := 12; n < 16; n++ {
		is(t, "state of "+strconv.Itoa(n), m.blocks[n].State, scan.Free)
	}
	sound(t, "Attach", m)
	ops = c.Ops()
	again := attached(t, c)
	is(t, "Ops of another Attach", c.Ops()-ops, 0)
	same(t, "lebs", looked(t, again), mixedLebs(t))
	sound(t, "Attach", again)
}

// mixed: a chip with some of everything: blocks that are Mapped, grown, full, closed, without pages; Free ones, worn less and more; four that are Spoilt: by an older copy, by a newer one that is not whole, by no Count, by an erase that failed. The mean of the Counts that are told is 5.
func mixed(t *testing.T, g api.Geometry) *nand.Chip {
	t.Helper()
	c := made(t, g)
	lay(t, c, 0, 3, header.Map{Leb: 0, Seq: 5}, "a0", "a1")
	lay(t, c, 1, append([]any{1, header.Map{Leb: 1, Seq: 6, Pages: 3}}, anys(many("b", smallRoom))...)...)
	lay(t, c, 2, 2, header.Map{Leb: 2, Seq: 9, Pages: 1}, "c0", "!")
	lay(t, c, 3, 2, header.Map{Leb: 3, Seq: 8})
	for n, count := range []int{4, 5, 5, 12, 4, 12, 9, 9} {
		lay(t, c, 4+n, count)
	}
	arm(t, c, api.Fault{At: 1, Kind: api.Fail})
	is(t, "Erase", c.Erase(12), api.EIO)
	lay(t, c, 14, 7, header.Map{Leb: 0, Seq: 10, Pages: 3}, "new", "new")
	lay(t, c, 15, 3, header.Map{Leb: 0, Seq: 4, Pages: 1}, "old", "old", "old")
	return c
}

func mixedLebs(t *testing.T) lebs {
	t.Helper()
	return make(lebs, smallLebs).with(0, leb{pages: text("a0", "a1")}).with(1, leb{pages: text(many("b", smallRoom)...)}).with(2, leb{pages: text("c0"), closed: true})
}

// TestAttachSpent: a spent chip is attached, and only read.
func TestAttachSpent(t *testing.T) {
	c := marked(mixed(t, small), 4, 5, 6)
	before := scanned(t, c)
	ops := c.Ops()
	m := attached(t, c)
	is(t, "Spent", m.Spent(), true)
	is(t, "Spare", m.Spare(), 0)
	same(t, "lebs", looked(t, m), mixedLebs(t))
	readOnly(t, m)
	same(t, "lebs", looked(t, m), mixedLebs(t))
	is(t, "Ops", c.Ops(), ops)
	same(t, "blocks", scanned(t, c), before)
	sound(t, "Attach", m)
	// Where nothing stands, nothing need be read.
	all := made(t, small)
	for n := range small.Blocks {
		all.Mark(n)
	}
	m = attached(t, all)
	is(t, "Spent", m.Spent(), true)
	is(t, "Spare", m.Spare(), 0)
	same(t, "lebs", looked(t, m), make(lebs, smallLebs))
	readOnly(t, m)
}

// readOnly: each call that changes says EROFS, but what comes ahead of that.
func readOnly(t *testing.T, m *Manager) {
	t.Helper()
	moved, errno := m.Wear()
	is(t, "Wear", errno, api.EROFS)
	is(t, "Wear", moved, false)
	for n := range m.Lebs() {
		is(t, "Write", m.Write(n, nil), api.EROFS)
		is(t, "Unmap", m.Unmap(n), api.EROFS)
		is(t, "Change", m.Change(n, nil), api.EROFS)
	}
	wrongArguments(t, m)
}

// wrongArguments: they come ahead of the power, of a spent chip, of what is kept.
func wrongArguments(t *testing.T, m *Manager) {
	t.Helper()
	const least = -1 << 63
	const most = 1<<63 - 1
	long := make([]byte, m.Page()+1)
	for _, n := range []int{least, -1, m.Lebs(), m.Lebs() + 1, m.chip.Geometry().Blocks, most} {
		data, errno := m.Read(n, 0)
		is(t, "Read", errno, api.EINVAL)
		is(t, "Read", len(data), 0)
		is(t, "Write", m.Write(n, nil), api.EINVAL)
		is(t, "Unmap", m.Unmap(n), api.EINVAL)
		is(t, "Change", m.Change(n, nil), api.EINVAL)
		is(t, "Used", m.Used(n), 0)
		is(t, "Closed", m.Closed(n), false)
	}
	for _, n := range []int{0, m.Lebs() - 1} {
		for _, page := range []int{least, -1, m.Pages(), m.Pages() + 1, most} {
			data, errno := m.Read(n, page)
			is(t, "Read", errno, api.EINVAL)
			is(t, "Read", len(data), 0)
		}
		is(t, "Write", m.Write(n, long), api.EINVAL)
		is(t, "Change", m.Change(n, make([][]byte, m.Pages()+1)), api.EINVAL)
		is(t, "Change", m.Change(n, [][]byte{nil, nil, long}), api.EINVAL)
	}
}

func TestLooks(t *testing.T) {
	c := made(t, small)
	m, _ := Format(c)
	is(t, "Lebs", m.Lebs(), smallLebs)
	is(t, "Pages", m.Pages(), smallRoom)
	is(t, "Page", m.Page(), 128)
	is(t, "Spare", m.Spare(), 2)
	is(t, "Spent", m.Spent(), false)
	is(t, "Chip", m.Chip(), c)
	for n, want := range []struct {
		spare int
		spent bool
	}{{1, false}, {0, false}, {0, true}, {0, true}} {
		c.Mark(n)
		is(t, "Spare", m.Spare(), want.spare)
		is(t, "Spent", m.Spent(), want.spent)
	}
	big := formatted(t, api.Geometry{Blocks: 256, Pages: 64, Page: 512})
	is(t, "Lebs", big.Lebs(), 254)
	is(t, "Pages", big.Pages(), 62)
	is(t, "Page", big.Page(), 512)
	is(t, "Spare", big.Spare(), 0)
	is(t, "Spent", big.Spent(), false)
	last := many("z", 62)
	is(t, "Change", big.Change(253, cells(last...)), api.OK)
	is(t, "last leb", looked(t, attached(t, big.Chip()))[253], leb{pages: text(last...)})
}

func TestNil(t *testing.T) {
	var m *Manager
	is(t, "Lebs", m.Lebs(), 0)
	is(t, "Pages", m.Pages(), 0)
	is(t, "Page", m.Page(), 0)
	for _, n := range []int{-1, 0, 1} {
		is(t, "Used", m.Used(n), 0)
		is(t, "Closed", m.Closed(n), false)
		data, errno := m.Read(n, n)
		is(t, "Read", errno, api.EFAULT)
		is(t, "Read", len(data), 0)
		is(t, "Write", m.Write(n, make([]byte, 1000)), api.EFAULT)
		is(t, "Unmap", m.Unmap(n), api.EFAULT)
		is(t, "Change", m.Change(n, make([][]byte, 1000)), api.EFAULT)
	}
	is(t, "Spare", m.Spare(), 0)
	is(t, "Spent", m.Spent(), false)
	is(t, "Chip", m.Chip(), nil)
	moved, errno := m.Wear()
	is(t, "Wear", errno, api.EFAULT)
	is(t, "Wear", moved, false)
}
