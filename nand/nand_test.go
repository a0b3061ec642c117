package nand

import (
	"bytes"
	"math"
	"slices"
	"testing"

	"pumice/api"
)

// small: the geometry of the chapter's examples.
var small = api.Geometry{Blocks: 16, Pages: 16, Page: 128, Reserve: 2}

// wild: numbers that no block and no page of a small chip has.
var wild = []int{-1, 16, 17, 256, math.MinInt, math.MaxInt, math.MinInt32, math.MaxInt32, 1 << 32}

func made(t *testing.T, plan ...api.Fault) *Chip {
	t.Helper()
	c, e := New(small, plan)
	if e != api.OK || c == nil {
		t.Fatalf("New: %v, %v", c, e)
	}
	return c
}

func said(t *testing.T, what string, got, want api.Errno) {
	t.Helper()
	if got != want {
		t.Errorf("%s: %d, not %d", what, got, want)
	}
}

func is[T comparable](t *testing.T, what string, got, want T) {
	t.Helper()
	if got != want {
		t.Errorf("%s: %v, not %v", what, got, want)
	}
}

// filled: a page of a small chip that has this text.
func filled(text string) string {
	return text + string(bytes.Repeat([]byte{0xff}, small.Page-len(text)))
}

func reads(t *testing.T, c *Chip, block, page int, want string) {
	t.Helper()
	got, e := c.Read(block, page)
	if e != api.OK || string(got) != want {
		t.Errorf("Read(%d, %d): %q, %d, not %q", block, page, got, e, want)
	}
}

func readFails(t *testing.T, c *Chip, block, page int, want api.Errno) {
	t.Helper()
	got, e := c.Read(block, page)
	if e != want || len(got) != 0 {
		t.Errorf("Read(%d, %d): %q, %d, not %d", block, page, got, e, want)
	}
}

// seen: all that can be asked of a chip, as a text.
func seen(c *Chip) string {
	out := []byte{}
	number := func(n int) { out = append(out, byte(n), byte(n>>8), ' ') }
	g := c.Geometry()
	for _, n := range []int{g.Blocks, g.Pages, g.Page, g.Reserve, c.Ops(), c.Wrong()} {
		number(n)
	}
	out = append(out, yesNo(c.On())...)
	on := c.Clone()
	on.Power()
	for b := range g.Blocks {
		number(c.Next(b))
		number(c.Erases(b))
		out = append(out, yesNo(c.Bad(b))...)
		for p := range g.Pages {
			data, e := on.Read(b, p)
			number(int(e))
			out = append(out, data...)
		}
	}
	return string(out)
}

func yesNo(b bool) string {
	if b {
		return "yes "
	}
	return "no "
}

// P301: a right geometry, at each limit and one beyond it.
func TestRight(t *testing.T) {
	for _, x := range []struct {
		blocks, pages, page, reserve int
		want                         bool
	}{
		{16, 16, 128, 2, true},
		{16, 16, 128, 0, true},
		{16, 16, 128, 4, true},
		{16, 16, 128, 5, false},
		{16, 16, 128, -1, false},
		{16, 16, 128, math.MinInt, false},
		{16, 16, 128, math.MaxInt, false},
		{19, 16, 128, 4, true},
		{19, 16, 128, 5, false},
		{20, 16, 128, 5, true},
		{15, 16, 128, 2, false},
		{17, 16, 128, 2, true},
		{256, 16, 128, 2, true},
		{256, 16, 128, 64, true},
		{256, 16, 128, 65, false},
		{257, 16, 128, 2, false},
		{0, 16, 128, 0, false},
		{-16, 16, 128, -4, false},
		{math.MinInt, 16, 128, 0, false},
		{math.MaxInt, 16, 128, 0, false},
		{16, 8, 256, 2, true}, // 1536 bytes
		{16, 8, 512, 2, true},
		{16, 8, 128, 2, false},
		{16, 8, 64, 2, false},
		{16, 16, 64, 2, false},
		{16, 32, 64, 2, true},
		{16, 64, 64, 2, true},
		{16, 64, 512, 2, true},
		{16, 4, 512, 2, false},
		{16, 7, 512, 2, false},
		{16, 12, 512, 2, false},
		{16, 24, 512, 2, false},
		{16, 63, 512, 2, false},
		{16, 65, 512, 2, false},
		{16, 128, 128, 2, false},
		{16, 0, 128, 2, false},
		{16, -16, 128, 2, false},
		{16, -16, -128, 2, false},
		{16, math.MinInt, 128, 2, false},
		{16, math.MaxInt, 128, 2, false},
		{16, 1 << 62, 128, 2, false},
		{16, 64, 32, 2, false},
		{16, 64, 63, 2, false},
		{16, 64, 65, 2, false},
		{16, 64, 96, 2, false},
		{16, 64, 384, 2, false},
		{16, 64, 511, 2, false},
		{16, 64, 513, 2, false},
		{16, 64, 1024, 2, false},
		{16, 64, 0, 2, false},
		{16, 64, -64, 2, false},
		{16, 64, math.MinInt, 2, false},
		{16, 64, math.MaxInt, 2, false},
		{16, 64, 1 << 62, 2, false},
		{0, 0, 0, 0, false},
	} {
		g := api.Geometry{Blocks: x.blocks, Pages: x.pages, Page: x.page, Reserve: x.reserve}
		if got := Right(g); got != x.want {
			t.Errorf("Right(%v): %v", g, got)
		}
		c, e := New(g, nil)
		if x.want && (e != api.OK || c == nil || c.Geometry() != g) || !x.want && (e != api.EINVAL || c != nil) {
			t.Errorf("New(%v): %v, %d", g, c != nil, e)
		}
	}
}

// P301: what a chip is at the beginning.
func TestNew(t *testing.T) {
	for _, g := range []api.Geometry{small, {Blocks: 17, Pages: 8, Page: 256}, {Blocks: 256, Pages: 64, Page: 512, Reserve: 64}} {
		c, e := New(g, nil)
		said(t, "New", e, api.OK)
		is(t, "Geometry", c.Geometry(), g)
		is(t, "On", c.On(), true)
		is(t, "Ops", c.Ops(), 0)
		is(t, "Wrong", c.Wrong(), 0)
		blank := bytes.Repeat([]byte{0xff}, g.Page)
		for b := range g.Blocks {
			if c.Next(b) != 0 || c.Bad(b) || c.Erases(b) != 0 {
				t.Fatalf("block %d of %v: %d, %v, %d", b, g, c.Next(b), c.Bad(b), c.Erases(b))
			}
			for p := range g.Pages {
				if got, e := c.Read(b, p); e != api.OK || !bytes.Equal(got, blank) {
					t.Fatalf("page %d of block %d of %v: %d, %x", p, b, g, e, got)
				}
			}
		}
	}
	is(t, "Geometry of nil", (*Chip)(nil).Geometry(), api.Geometry{})
}

// P301: each page and each block is one of its own.
func TestOwnPages(t *testing.T) {
	for _, g := range []api.Geometry{{Blocks: 256, Pages: 8, Page: 256}, {Blocks: 16, Pages: 64, Page: 64, Reserve: 4}} {
		c, _ := New(g, nil)
		for b := range g.Blocks {
			for p := range g.Pages {
				said(t, "Program", c.Program(b, p, []byte{byte(b), byte(p)}), api.OK)
			}
		}
		for b := range g.Blocks {
			for p := range g.Pages {
				if got, e := c.Read(b, p); e != api.OK || got[0] != byte(b) || got[1] != byte(p) || got[2] != 0xff {
					t.Fatalf("Read(%d, %d): %x, %d", b, p, got, e)
				}
			}
		}
	}
}

// many: a plan of n cuts, the last ones first.
func many(n int) []api.Fault {
	plan := []api.Fault{}
	for i := range n {
		plan = append(plan, api.Fault{At: n - i, Kind: api.Cut, Torn: i % 3})
	}
	return plan
}

// P301, P306: which plans are right.
func TestPlans(t *testing.T) {
	cut, fail := api.Cut, api.Fail
	for _, x := range []struct {
		plan []api.Fault
		want api.Errno
	}{
		{nil, api.OK},
		{[]api.Fault{}, api.OK},
		{[]api.Fault{{At: 1, Kind: cut, Torn: 0}}, api.OK},
		{[]api.Fault{{At: 1, Kind: cut, Torn: 1}}, api.OK},
		{[]api.Fault{{At: 1, Kind: cut, Torn: 2}}, api.OK},
		{[]api.Fault{{At: 1, Kind: cut, Torn: 3}}, api.EINVAL},
		{[]api.Fault{{At: 1, Kind: cut, Torn: -1}}, api.EINVAL},
		{[]api.Fault{{At: 1, Kind: cut, Torn: math.MinInt}}, api.EINVAL},
		{[]api.Fault{{At: 1, Kind: cut, Torn: math.MaxInt}}, api.EINVAL},
		{[]api.Fault{{At: 1, Kind: fail, Torn: 0}}, api.OK},
		{[]api.Fault{{At: 1, Kind: fail, Torn: 1}}, api.EINVAL},
		{[]api.Fault{{At: 1, Kind: fail, Torn: 2}}, api.EINVAL},
		{[]api.Fault{{At: 1, Kind: fail, Torn: -1}}, api.EINVAL},
		{[]api.Fault{{At: 0, Kind: cut, Torn: 0}}, api.EINVAL},
		{[]api.Fault{{At: 0, Kind: fail, Torn: 0}}, api.EINVAL},
		{[]api.Fault{{At: -1, Kind: cut, Torn: 0}}, api.EINVAL},
		{[]api.Fault{{At: math.MinInt, Kind: cut, Torn: 0}}, api.EINVAL},
		{[]api.Fault{{At: math.MaxInt, Kind: cut, Torn: 0}}, api.OK},
		{[]api.Fault{{At: 1, Kind: 0, Torn: 0}}, api.EINVAL},
		{[]api.Fault{{At: 1, Kind: 3, Torn: 0}}, api.EINVAL},
		{[]api.Fault{{At: 1, Kind: -1, Torn: 0}}, api.EINVAL},
		{[]api.Fault{{At: 1, Kind: math.MaxInt, Torn: 0}}, api.EINVAL},
		{[]api.Fault{{At: 0, Kind: 0, Torn: 0}}, api.EINVAL},
		{[]api.Fault{{At: 2, Kind: cut, Torn: 0}, {At: 1, Kind: fail, Torn: 0}}, api.OK},
		{[]api.Fault{{At: 2, Kind: cut, Torn: 0}, {At: 2, Kind: cut, Torn: 0}}, api.EINVAL},
		{[]api.Fault{{At: 2, Kind: cut, Torn: 0}, {At: 2, Kind: fail, Torn: 0}}, api.EINVAL},
		{[]api.Fault{{At: 2, Kind: cut, Torn: 0}, {At: 1, Kind: fail, Torn: 0}, {At: 2, Kind: cut, Torn: 1}}, api.EINVAL},
		{[]api.Fault{{At: 1, Kind: cut, Torn: 0}, {At: 2, Kind: fail, Torn: 0}, {At: 3, Kind: fail, Torn: 1}}, api.EINVAL},
		{[]api.Fault{{At: 3, Kind: fail, Torn: 1}, {At: 2, Kind: fail, Torn: 0}, {At: 1, Kind: cut, Torn: 0}}, api.EINVAL},
		{many(api.MaxFaults), api.OK},
		{many(api.MaxFaults + 1), api.EINVAL},
		{many(3 * api.MaxFaults), api.EINVAL},
	} {
		was := slices.Clone(x.plan)
		c, e := New(small, x.plan)
		if e != x.want || (c != nil) != (x.want == api.OK) {
			t.Errorf("New with %v: %v, %d", x.plan, c != nil, e)
		}
		said(t, "Arm", made(t).Arm(x.plan), x.want)
		if !slices.Equal(was, x.plan) {
			t.Errorf("the plan was changed: %v, not %v", x.plan, was)
		}
	}
}

// P301: EINVAL also where both are wrong.
func TestNewBothWrong(t *testing.T) {
	c, e := New(api.Geometry{}, []api.Fault{{}})
	said(t, "New", e, api.EINVAL)
	is(t, "no chip", c == nil, true)
}

// P301, P306: what the caller writes into his plan later is not seen, in its spare room neither.
func TestPlanIsNotKept(t *testing.T) {
	room := []api.Fault{{At: 2, Kind: api.Fail, Torn: 0}, {At: 7, Kind: 7, Torn: 7}, {At: 7, Kind: 7, Torn: 7}}
	c, _ := New(small, room[:1])
	armed := made(t)
	said(t, "Arm", armed.Arm(room[:1]), api.OK)
	is(t, "spare room", room[1], api.Fault{At: 7, Kind: 7, Torn: 7})
	room[0] = api.Fault{At: 1, Kind: api.Cut}
	for _, c := range []*Chip{c, armed} {
		said(t, "Erase", c.Erase(0), api.OK)
		said(t, "Erase", c.Erase(0), api.EIO)
		said(t, "Erase", c.Erase(0), api.OK)
	}
}

// P302: bytes of pages of each state.
func TestRead(t *testing.T) {
	c := made(t, api.Fault{At: 3, Kind: api.Fail})
	said(t, "Program", c.Program(3, 0, []byte("a")), api.OK)
	said(t, "Program", c.Program(3, 1, []byte(filled("b"))), api.OK)
	said(t, "Program", c.Program(3, 2, []byte("c")), api.EIO)
	reads(t, c, 3, 0, filled("a"))
	reads(t, c, 3, 1, filled("b"))
	readFails(t, c, 3, 2, api.EIO)
	reads(t, c, 3, 3, filled(""))
	reads(t, c, 15, 15, filled(""))
	said(t, "Mark", c.Mark(3), api.OK)
	reads(t, c, 3, 0, filled("a"))
	readFails(t, c, 3, 2, api.EIO)
	reads(t, c, 3, 15, filled(""))
	is(t, "Ops", c.Ops(), 3)
	is(t, "Wrong", c.Wrong(), 0)
}

// P302: the errors, and which of several is told.
func TestReadErrors(t *testing.T) {
	c := made(t, api.Fault{At: 1, Kind: api.Fail}, api.Fault{At: 2, Kind: api.Cut, Torn: 2})
	said(t, "Erase", c.Erase(0), api.EIO)
	for _, n := range wild {
		readFails(t, c, n, 0, api.EINVAL)
		readFails(t, c, 0, n, api.EINVAL)
		readFails(t, c, n, n, api.EINVAL)
	}
	readFails(t, c, 0, 0, api.EIO)
	said(t, "Erase", c.Erase(1), api.ENXIO)
	readFails(t, c, 1, 0, api.ENXIO)
	readFails(t, c, 0, 0, api.ENXIO)
	readFails(t, c, -1, 0, api.ENXIO)
	readFails(t, c, 0, 16, api.ENXIO)
	readFails(t, nil, 0, 0, api.EFAULT)
	readFails(t, nil, -1, -1, api.EFAULT)
}

// P302, P303: pages and blocks have the geometry's own ends, not the limits'.
func TestEndsOfGeometry(t *testing.T) {
	g := api.Geometry{Blocks: 20, Pages: 8, Page: 256, Reserve: 1}
	c, _ := New(g, nil)
	for p := range 8 {
		said(t, "Program", c.Program(19, p, make([]byte, 256)), api.OK)
	}
	said(t, "Program", c.Program(19, 8, nil), api.EINVAL)
	said(t, "Program", c.Program(20, 0, nil), api.EINVAL)
	said(t, "Program", c.Program(18, 0, make([]byte, 257)), api.EINVAL)
	readFails(t, c, 19, 8, api.EINVAL)
	readFails(t, c, 20, 0, api.EINVAL)
	said(t, "Erase", c.Erase(20), api.EINVAL)
	said(t, "Mark", c.Mark(20), api.EINVAL)
	is(t, "Next", c.Next(19), 8)
	is(t, "Next", c.Next(20), 0)
	is(t, "Wrong", c.Wrong(), 0)
}

// P302, P307: what is written into an answer, its spare room too, or into the data later, is not seen.
func TestOwnMemory(t *testing.T) {
	c := made(t)
	room := []byte("abcd")
	said(t, "Program", c.Program(3, 0, room[:2]), api.OK)
	is(t, "data", string(room), "abcd")
	room[0], room[2] = 'x', 'x'
	reads(t, c, 3, 0, filled("ab"))
	for p := range 2 {
		was, _ := c.Read(3, p)
		want := string(was)
		all := was[:cap(was)]
		for i := range all {
			all[i] = 'y'
		}
		reads(t, c, 3, p, want)
		reads(t, c, 4, p, filled(""))
	}
}

// P303: example 1, and the order of pages.
func TestProgram(t *testing.T) {
	c := made(t)
	said(t, "Program", c.Program(3, 0, []byte("a")), api.OK)
	reads(t, c, 3, 0, filled("a"))
	said(t, "Program", c.Program(3, 0, []byte("b")), api.EPERM)
	said(t, "Program", c.Program(3, 2, []byte("b")), api.EPERM)
	reads(t, c, 3, 0, filled("a"))
	reads(t, c, 3, 2, filled(""))
	is(t, "Next", c.Next(3), 1)
	is(t, "Wrong", c.Wrong(), 2)
	is(t, "Ops", c.Ops(), 1)
	for p := 1; p < 16; p++ {
		said(t, "Program", c.Program(3, p, []byte{byte(p)}), api.OK)
		is(t, "Next", c.Next(3), p+1)
	}
	for p := range 16 {
		said(t, "Program", c.Program(3, p, nil), api.EPERM)
	}
	is(t, "Next", c.Next(3), 16)
	is(t, "Wrong", c.Wrong(), 18)
	is(t, "Ops", c.Ops(), 16)
	is(t, "Next", c.Next(2), 0)
	is(t, "Next", c.Next(4), 0)
}

// P303: data of any length up to Page bytes, of any bytes.
func TestProgramData(t *testing.T) {
	c := made(t)
	for i, data := range []string{"", "\x00", "\xff", "\x80\xfe", filled("")[:127], filled(""), string(make([]byte, 128))} {
		said(t, "Program", c.Program(3, i, []byte(data)), api.OK)
		reads(t, c, 3, i, filled(data))
	}
	said(t, "Program", c.Program(3, 7, nil), api.OK)
	reads(t, c, 3, 7, filled(""))
	is(t, "Next", c.Next(3), 8)
	said(t, "Program", c.Program(3, 7, nil), api.EPERM)
}

// P303: the errors, and which of several is told.
func TestProgramErrors(t *testing.T) {
	c := made(t, api.Fault{At: 1, Kind: api.Cut})
	long := make([]byte, 129)
	said(t, "Mark", c.Mark(2), api.OK)
	was := seen(c)
	for _, n := range wild {
		said(t, "Program", c.Program(n, 0, nil), api.EINVAL)
		said(t, "Program", c.Program(0, n, nil), api.EINVAL)
		said(t, "Program", c.Program(2, n, nil), api.EINVAL)
		said(t, "Program", c.Program(n, n, long), api.EINVAL)
	}
	said(t, "Program", c.Program(0, 0, long), api.EINVAL)
	said(t, "Program", c.Program(0, 1, long), api.EINVAL)
	said(t, "Program", c.Program(2, 0, long), api.EINVAL)
	is(t, "the chip is as it was", seen(c) == was, true)
	said(t, "Program", c.Program(2, 0, nil), api.EPERM)
	said(t, "Program", c.Program(2, 1, nil), api.EPERM)
	said(t, "Program", c.Program(0, 1, nil), api.EPERM)
	is(t, "Wrong", c.Wrong(), 3)
	is(t, "Next", c.Next(2), 0)
	reads(t, c, 2, 0, filled(""))
	is(t, "Ops", c.Ops(), 0)
	said(t, "Program", c.Program(0, 0, nil), api.ENXIO)
	said(t, "Program", c.Program(-1, 0, nil), api.ENXIO)
	said(t, "Program", c.Program(0, 16, long), api.ENXIO)
	said(t, "Program", c.Program(2, 0, nil), api.ENXIO)
	is(t, "Wrong", c.Wrong(), 3)
	is(t, "Ops", c.Ops(), 1)
	said(t, "Program", (*Chip)(nil).Program(-1, -1, long), api.EFAULT)
	said(t, "Program", (*Chip)(nil).Program(0, 0, nil), api.EFAULT)
}

// P303: each fault at a program.
func TestProgramFaults(t *testing.T) {
	for _, x := range []struct {
		kind, torn int
		want       api.Errno
		next       int
		page       api.Errno
		text       string
	}{
		{api.Cut, 0, api.ENXIO, 1, api.OK, filled("")},
		{api.Cut, 1, api.ENXIO, 2, api.EIO, ""},
		{api.Cut, 2, api.ENXIO, 2, api.OK, filled("b")},
		{api.Fail, 0, api.EIO, 2, api.EIO, ""},
	} {
		c := made(t, api.Fault{At: 2, Kind: x.kind, Torn: x.torn})
		said(t, "Program", c.Program(3, 0, []byte("a")), api.OK)
		said(t, "Program", c.Program(3, 1, []byte("b")), x.want)
		is(t, "On", c.On(), x.kind == api.Fail)
		is(t, "Next", c.Next(3), x.next)
		is(t, "Ops", c.Ops(), 2)
		is(t, "Wrong", c.Wrong(), 0)
		is(t, "Bad", c.Bad(3), false)
		c.Power()
		is(t, "Next", c.Next(3), x.next)
		reads(t, c, 3, 0, filled("a"))
		got, e := c.Read(3, 1)
		if e != x.page || string(got) != x.text {
			t.Errorf("Read with %v: %q, %d", x, got, e)
		}
		reads(t, c, 3, 2, filled(""))
		said(t, "Program", c.Program(3, x.next, []byte("c")), api.OK)
		reads(t, c, 3, x.next, filled("c"))
		said(t, "Program", c.Program(3, 0, nil), api.EPERM)
		said(t, "Erase", c.Erase(3), api.OK)
		for p := range 16 {
			reads(t, c, 3, p, filled(""))
		}
	}
}

// P303: a fault at a block's last page leaves none to program.
func TestFaultAtLastPage(t *testing.T) {
	for torn := range 3 {
		c := made(t, api.Fault{At: 16, Kind: api.Cut, Torn: torn})
		for p := range 15 {
			said(t, "Program", c.Program(0, p, nil), api.OK)
		}
		said(t, "Program", c.Program(0, 15, nil), api.ENXIO)
		c.Power()
		want := api.EPERM
		if torn == 0 {
			want = api.OK
		}
		said(t, "Program", c.Program(0, 15, nil), want)
		is(t, "Next", c.Next(0), 16)
	}
}

// P304: all pages of the one block.
func TestErase(t *testing.T) {
	c := made(t)
	for b := 2; b < 5; b++ {
		for p := range 4 {
			said(t, "Program", c.Program(b, p, []byte("a")), api.OK)
		}
	}
	said(t, "Erase", c.Erase(3), api.OK)
	is(t, "Next", c.Next(3), 0)
	for p := range 16 {
		reads(t, c, 3, p, filled(""))
	}
	for p := range 4 {
		reads(t, c, 2, p, filled("a"))
		reads(t, c, 4, p, filled("a"))
	}
	is(t, "Next", c.Next(2), 4)
	is(t, "Next", c.Next(4), 4)
	is(t, "Ops", c.Ops(), 13)
	said(t, "Erase", c.Erase(3), api.OK)
	is(t, "Erases", c.Erases(3), 2)
	is(t, "Erases", c.Erases(2), 0)
	is(t, "Ops", c.Ops(), 14)
	is(t, "Wrong", c.Wrong(), 0)
	said(t, "Program", c.Program(3, 1, nil), api.EPERM)
	said(t, "Program", c.Program(3, 0, []byte("b")), api.OK)
	reads(t, c, 3, 0, filled("b"))
}

// P304: the errors, and which of several is told.
func TestEraseErrors(t *testing.T) {
	c := made(t, api.Fault{At: 1, Kind: api.Cut})
	said(t, "Mark", c.Mark(2), api.OK)
	was := seen(c)
	for _, n := range wild {
		said(t, "Erase", c.Erase(n), api.EINVAL)
	}
	is(t, "the chip is as it was", seen(c) == was, true)
	said(t, "Erase", c.Erase(2), api.EPERM)
	is(t, "Wrong", c.Wrong(), 1)
	is(t, "Erases", c.Erases(2), 0)
	is(t, "Ops", c.Ops(), 0)
	said(t, "Erase", c.Erase(0), api.ENXIO)
	said(t, "Erase", c.Erase(-1), api.ENXIO)
	said(t, "Erase", c.Erase(2), api.ENXIO)
	is(t, "Wrong", c.Wrong(), 1)
	is(t, "Erases", c.Erases(0), 1)
	said(t, "Erase", (*Chip)(nil).Erase(0), api.EFAULT)
	said(t, "Erase", (*Chip)(nil).Erase(-1), api.EFAULT)
}

// P304: each fault at an erase.
func TestEraseFaults(t *testing.T) {
	for _, x := range []struct {
		kind, torn int
		want       api.Errno
		next       int
		page       api.Errno
		first      string
		last       string
	}{
		{api.Cut, 0, api.ENXIO, 2, api.OK, filled("a"), filled("")},
		{api.Cut, 1, api.ENXIO, 16, api.EIO, "", ""},
		{api.Cut, 2, api.ENXIO, 0, api.OK, filled(""), filled("")},
		{api.Fail, 0, api.EIO, 16, api.EIO, "", ""},
	} {
		c := made(t, api.Fault{At: 4, Kind: x.kind, Torn: x.torn})
		for p := range 2 {
			said(t, "Program", c.Program(3, p, []byte("a")), api.OK)
		}
		said(t, "Program", c.Program(4, 0, []byte("n")), api.OK)
		said(t, "Erase", c.Erase(3), x.want)
		is(t, "On", c.On(), x.kind == api.Fail)
		is(t, "Next", c.Next(3), x.next)
		is(t, "Ops", c.Ops(), 4)
		is(t, "Erases", c.Erases(3), 1)
		is(t, "Wrong", c.Wrong(), 0)
		is(t, "Bad", c.Bad(3), false)
		c.Power()
		for p := range 16 {
			want := x.last
			if p < 2 {
				want = x.first
			}
			got, e := c.Read(3, p)
			if e != x.page || string(got) != want {
				t.Errorf("Read(3, %d) with %v: %q, %d", p, x, got, e)
			}
			if p != x.next {
				said(t, "Program", c.Program(3, p, nil), api.EPERM)
			}
		}
		reads(t, c, 4, 0, filled("n"))
		is(t, "Next", c.Next(4), 1)
		said(t, "Erase", c.Erase(3), api.OK)
		is(t, "Erases", c.Erases(3), 2)
		is(t, "Next", c.Next(3), 0)
		reads(t, c, 3, 0, filled(""))
		reads(t, c, 3, 15, filled(""))
		said(t, "Program", c.Program(3, 0, nil), api.OK)
	}
}

// Examples 2 and 3.
func TestExamples(t *testing.T) {
	c := made(t, api.Fault{At: 2, Kind: api.Cut, Torn: 1})
	said(t, "Program", c.Program(3, 0, []byte("a")), api.OK)
	said(t, "Program", c.Program(3, 1, []byte("b")), api.ENXIO)
	is(t, "On", c.On(), false)
	c.Power()
	readFails(t, c, 3, 1, api.EIO)
	is(t, "Next", c.Next(3), 2)
	c = made(t, api.Fault{At: 1, Kind: api.Fail})
	said(t, "Erase", c.Erase(0), api.EIO)
	readFails(t, c, 0, 0, api.EIO)
	said(t, "Program", c.Program(0, 0, []byte("a")), api.EPERM)
}

// P305: a mark is for good, is no operation, and changes nothing else.
func TestMark(t *testing.T) {
	c := made(t, api.Fault{At: 3, Kind: api.Cut})
	said(t, "Program", c.Program(3, 0, []byte("a")), api.OK)
	said(t, "Erase", c.Erase(4), api.OK)
	said(t, "Mark", c.Mark(3), api.OK)
	said(t, "Mark", c.Mark(3), api.OK)
	is(t, "Ops", c.Ops(), 2)
	is(t, "Wrong", c.Wrong(), 0)
	is(t, "Bad", c.Bad(3), true)
	is(t, "Bad", c.Bad(2), false)
	is(t, "Bad", c.Bad(4), false)
	is(t, "Next", c.Next(3), 1)
	said(t, "Program", c.Program(3, 1, nil), api.EPERM)
	said(t, "Erase", c.Erase(3), api.EPERM)
	is(t, "Wrong", c.Wrong(), 2)
	is(t, "Next", c.Next(3), 1)
	is(t, "Erases", c.Erases(3), 0)
	reads(t, c, 3, 0, filled("a"))
	said(t, "Program", c.Program(4, 0, nil), api.ENXIO)
	is(t, "Bad with the power off", c.Bad(3), true)
	is(t, "Next with the power off", c.Next(3), 1)
	is(t, "Erases with the power off", c.Erases(4), 1)
	c.Power()
	is(t, "Bad", c.Bad(3), true)
	said(t, "Arm", c.Arm(nil), api.OK)
	is(t, "Bad", c.Bad(3), true)
	said(t, "Program", c.Program(3, 1, nil), api.EPERM)
}

// P305: the errors of Mark, and what is told of blocks that are none.
func TestMarkErrors(t *testing.T) {
	c := made(t, api.Fault{At: 1, Kind: api.Cut})
	was := seen(c)
	for _, n := range wild {
		said(t, "Mark", c.Mark(n), api.EINVAL)
		is(t, "Bad", c.Bad(n), false)
		is(t, "Next", c.Next(n), 0)
		is(t, "Erases", c.Erases(n), 0)
	}
	is(t, "the chip is as it was", seen(c) == was, true)
	said(t, "Erase", c.Erase(0), api.ENXIO)
	said(t, "Mark", c.Mark(0), api.ENXIO)
	said(t, "Mark", c.Mark(-1), api.ENXIO)
	is(t, "Bad", c.Bad(0), false)
	c.Power()
	is(t, "Bad", c.Bad(0), false)
	said(t, "Mark", c.Mark(0), api.OK)
	is(t, "Bad", c.Bad(0), true)
	said(t, "Mark", (*Chip)(nil).Mark(0), api.EFAULT)
	said(t, "Mark", (*Chip)(nil).Mark(-1), api.EFAULT)
	is(t, "Bad of nil", (*Chip)(nil).Bad(0), false)
	is(t, "Next of nil", (*Chip)(nil).Next(0), 0)
}

// P306: Power changes nothing but the power.
func TestPower(t *testing.T) {
	c := made(t, api.Fault{At: 2, Kind: api.Cut}, api.Fault{At: 3, Kind: api.Fail})
	is(t, "On", c.On(), true)
	was := seen(c)
	c.Power()
	is(t, "the chip is as it was", seen(c) == was, true)
	said(t, "Program", c.Program(3, 0, []byte("a")), api.OK)
	said(t, "Erase", c.Erase(3), api.ENXIO)
	is(t, "On", c.On(), false)
	c.Power()
	is(t, "On", c.On(), true)
	is(t, "Ops", c.Ops(), 2)
	is(t, "Erases", c.Erases(3), 1)
	is(t, "Next", c.Next(3), 1)
	reads(t, c, 3, 0, filled("a"))
	said(t, "the plan goes on", c.Erase(3), api.EIO)
	is(t, "On", c.On(), true)
}

// P306: a plan's faults come at their numbers, in whatever order they stand, each once; calls that begin no operation are not counted.
func TestPlanNumbers(t *testing.T) {
	c := made(t, api.Fault{At: 5, Kind: api.Cut, Torn: 2}, api.Fault{At: 2, Kind: api.Fail}, api.Fault{At: 6, Kind: api.Fail})
	for i, want := range []api.Errno{api.OK, api.EIO, api.OK, api.OK, api.ENXIO, api.EIO, api.OK, api.OK} {
		c.Power()
		c.Mark(0)
		c.Read(1, 1)
		said(t, "Erase of a marked one", c.Erase(0), api.EPERM)
		said(t, "Program of a wrong one", c.Program(2, 9, nil), api.EPERM)
		said(t, "Erase of none", c.Erase(99), api.EINVAL)
		is(t, "Ops", c.Ops(), i)
		said(t, "Erase", c.Erase(3), want)
	}
	is(t, "Ops", c.Ops(), 8)
	is(t, "Wrong", c.Wrong(), 16)
	is(t, "Erases", c.Erases(3), 8)
}

// P306: with many faults, each of its own kind, none is lost.
func TestLongPlan(t *testing.T) {
	c := made(t, many(api.MaxFaults)...)
	for i := range api.MaxFaults {
		said(t, "Erase", c.Erase(i%16), api.ENXIO)
		is(t, "On", c.On(), false)
		c.Power()
	}
	said(t, "Erase", c.Erase(0), api.OK)
	is(t, "Ops", c.Ops(), 257)
}

// P306: Arm's numbers count from the call on; what the chip had is gone.
func TestArm(t *testing.T) {
	c := made(t, api.Fault{At: 3, Kind: api.Fail}, api.Fault{At: 5, Kind: api.Fail})
	said(t, "Erase", c.Erase(0), api.OK)
	said(t, "Erase", c.Erase(0), api.OK)
	was := seen(c)
	said(t, "Arm", c.Arm([]api.Fault{{At: 2, Kind: api.Fail, Torn: 0}, {At: 1, Kind: api.Cut, Torn: 7}}), api.EINVAL)
	is(t, "the chip is as it was", seen(c) == was, true)
	said(t, "the old plan stays", c.Erase(0), api.EIO)
	was = seen(c)
	said(t, "Arm", c.Arm([]api.Fault{{At: 3, Kind: api.Fail, Torn: 0}, {At: math.MaxInt, Kind: api.Fail, Torn: 0}}), api.OK)
	is(t, "the chip is as it was", seen(c) == was, true)
	for _, want := range []api.Errno{api.OK, api.OK, api.EIO, api.OK} {
		said(t, "Erase", c.Erase(0), want)
	}
	is(t, "Ops", c.Ops(), 7)
	said(t, "Arm", c.Arm([]api.Fault{{At: 1, Kind: api.Cut, Torn: 0}}), api.OK)
	said(t, "Erase", c.Erase(0), api.ENXIO)
	said(t, "Arm with the power off", c.Arm([]api.Fault{{At: 1, Kind: api.Fail, Torn: 0}}), api.OK)
	is(t, "On", c.On(), false)
	said(t, "Erase", c.Erase(0), api.ENXIO)
	c.Power()
	said(t, "Erase", c.Erase(0), api.EIO)
	said(t, "Arm", c.Arm([]api.Fault{{At: 1, Kind: api.Fail, Torn: 0}}), api.OK)
	said(t, "Arm", c.Arm(nil), api.OK)
	said(t, "Erase", c.Erase(0), api.OK)
	said(t, "Arm of nil", (*Chip)(nil).Arm(nil), api.EFAULT)
	said(t, "Arm of nil", (*Chip)(nil).Arm([]api.Fault{{}}), api.EFAULT)
}

// P306: a clone is the same, its plan too, and neither sees what the other does.
func TestClone(t *testing.T) {
	c := made(t, api.Fault{At: 4, Kind: api.Fail}, api.Fault{At: 6, Kind: api.Cut, Torn: 1})
	said(t, "Program", c.Program(3, 0, []byte("a")), api.OK)
	said(t, "Erase", c.Erase(4), api.OK)
	said(t, "Erase", c.Erase(4), api.OK)
	said(t, "Mark", c.Mark(5), api.OK)
	said(t, "Erase", c.Erase(5), api.EPERM)
	twin := c.Clone()
	is(t, "Geometry", twin.Geometry(), small)
	is(t, "the same", seen(twin) == seen(c), true)
	was := seen(c)
	work := func(c *Chip) {
		said(t, "Program", c.Program(3, 1, []byte("b")), api.EIO)
		said(t, "Erase", c.Erase(3), api.OK)
		said(t, "Mark", c.Mark(6), api.OK)
		said(t, "Erase", c.Erase(6), api.EPERM)
		said(t, "Program", c.Program(3, 0, []byte("c")), api.ENXIO)
	}
	work(twin)
	is(t, "the first is as it was", seen(c) == was, true)
	is(t, "On", c.On(), true)
	is(t, "On", twin.On(), false)
	work(c)
	is(t, "the same again", seen(twin) == seen(c), true)
	off := c.Clone()
	is(t, "a clone of one that is off", off.On(), false)
	off.Power()
	is(t, "On", c.On(), false)
	said(t, "Arm", off.Arm([]api.Fault{{At: 1, Kind: api.Fail, Torn: 0}}), api.OK)
	c.Power()
	said(t, "Erase", c.Erase(3), api.OK)
	said(t, "Erase", off.Erase(3), api.EIO)
}

// P306: what is told of nil.
func TestNil(t *testing.T) {
	var c *Chip
	is(t, "On", c.On(), false)
	c.Power()
	is(t, "On", c.On(), false)
	is(t, "Ops", c.Ops(), 0)
	is(t, "Wrong", c.Wrong(), 0)
	is(t, "Erases", c.Erases(0), 0)
	is(t, "Clone", c.Clone() == nil, true)
}

// Rule 5: two chips share nothing.
func TestTwoChips(t *testing.T) {
	plan := []api.Fault{{At: 1, Kind: api.Fail, Torn: 0}}
	a, b := made(t, plan...), made(t, plan...)
	said(t, "Erase", a.Erase(0), api.EIO)
	said(t, "Mark", a.Mark(1), api.OK)
	is(t, "Bad", b.Bad(1), false)
	is(t, "Ops", b.Ops(), 0)
	said(t, "Erase", b.Erase(0), api.EIO)
}
