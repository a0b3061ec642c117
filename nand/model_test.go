package nand

import (
	"math/rand"
	"testing"

	"pumice/api"
)

// model: the chapter's words once more, in maps by the numbers of blocks and pages.
type model struct {
	g          api.Geometry
	text       map[[2]int]string
	gone       map[[2]int]bool
	next       map[int]int
	erases     map[int]int
	bad        map[int]bool
	on         bool
	ops, wrong int
	faults     map[int]api.Fault
	laid       int
}

func newModel(g api.Geometry, plan []api.Fault) *model {
	m := &model{g: g, text: map[[2]int]string{}, gone: map[[2]int]bool{}, next: map[int]int{}, erases: map[int]int{}, bad: map[int]bool{}, on: true}
	m.arm(plan)
	return m
}

func (m *model) arm(plan []api.Fault) {
	m.faults, m.laid = map[int]api.Fault{}, m.ops
	for _, f := range plan {
		m.faults[f.At] = f
	}
}

func (m *model) clone() *model {
	n := *m
	n.text, n.gone, n.next, n.erases, n.bad = copied(m.text), copied(m.gone), copied(m.next), copied(m.erases), copied(m.bad)
	n.faults = copied(m.faults)
	return &n
}

func copied[K comparable, V any](m map[K]V) map[K]V {
	out := map[K]V{}
	for k, v := range m {
		out[k] = v
	}
	return out
}

func (m *model) isBlock(b int) bool { return b >= 0 && b < m.g.Blocks }
func (m *model) isPage(p int) bool  { return p >= 0 && p < m.g.Pages }

func (m *model) read(b, p int) (string, api.Errno) {
	if !m.on {
		return "", api.ENXIO
	}
	if !m.isBlock(b) || !m.isPage(p) {
		return "", api.EINVAL
	}
	if m.gone[[2]int{b, p}] {
		return "", api.EIO
	}
	text := []byte(m.text[[2]int{b, p}])
	for len(text) < m.g.Page {
		text = append(text, 0xff)
	}
	return string(text), api.OK
}

func (m *model) operation() api.Fault {
	m.ops++
	f := m.faults[m.ops-m.laid]
	if f.Kind == api.Cut {
		m.on = false
	}
	return f
}

func (m *model) program(b, p int, data string) api.Errno {
	if !m.on {
		return api.ENXIO
	}
	if !m.isBlock(b) || !m.isPage(p) || len(data) > m.g.Page {
		return api.EINVAL
	}
	if m.bad[b] || m.next[b] != p {
		m.wrong++
		return api.EPERM
	}
	f := m.operation()
	if f.Kind == api.Cut && f.Torn == 0 {
		return api.ENXIO
	}
	m.next[b]++
	if f.Kind == api.Fail || f.Kind == api.Cut && f.Torn == 1 {
		m.gone[[2]int{b, p}] = true
	} else {
		m.text[[2]int{b, p}] = data
	}
	return errnoOf(f)
}

func (m *model) erase(b int) api.Errno {
	if !m.on {
		return api.ENXIO
	}
	if !m.isBlock(b) {
		return api.EINVAL
	}
	if m.bad[b] {
		m.wrong++
		return api.EPERM
	}
	f := m.operation()
	m.erases[b]++
	if f.Kind == api.Cut && f.Torn == 0 {
		return api.ENXIO
	}
	gone := f.Kind == api.Fail || f.Kind == api.Cut && f.Torn == 1
	m.next[b] = 0
	if gone {
		m.next[b] = m.g.Pages
	}
	for p := range m.g.Pages {
		delete(m.text, [2]int{b, p})
		m.gone[[2]int{b, p}] = gone
	}
	return errnoOf(f)
}

func errnoOf(f api.Fault) api.Errno {
	return map[int]api.Errno{api.Cut: api.ENXIO, api.Fail: api.EIO}[f.Kind]
}

func (m *model) mark(b int) api.Errno {
	if !m.on {
		return api.ENXIO
	}
	if !m.isBlock(b) {
		return api.EINVAL
	}
	m.bad[b] = true
	return api.OK
}

// anyPlan: a right one, of few faults that come soon.
func anyPlan(r *rand.Rand) []api.Fault {
	plan := []api.Fault{}
	for _, i := range r.Perm(40)[:r.Intn(8)] {
		f := api.Fault{At: i + 1, Kind: api.Cut, Torn: r.Intn(3)}
		if r.Intn(2) == 0 {
			f = api.Fault{At: i + 1, Kind: api.Fail}
		}
		plan = append(plan, f)
	}
	return plan
}

// step: one call of both, by chance; do they answer the same?
func step(r *rand.Rand, c *Chip, m *model) bool {
	b, p := r.Intn(5)-1, r.Intn(10)-1
	if r.Intn(3) > 0 {
		p = c.Next(b)
	}
	if r.Intn(30) == 0 {
		b = m.g.Blocks - r.Intn(2)
	}
	data := make([]byte, r.Intn(m.g.Page+2))
	r.Read(data)
	switch n := r.Intn(100); {
	case n < 50:
		return c.Program(b, p, data) == m.program(b, p, string(data))
	case n < 60:
		return c.Erase(b) == m.erase(b)
	case n < 61:
		return c.Mark(b) == m.mark(b)
	case n < 65:
		plan := anyPlan(r)
		m.arm(plan)
		return c.Arm(plan) == api.OK
	case n < 70:
		m.on = true
		c.Power()
		return true
	}
	got, e := c.Read(b, p)
	want, f := m.read(b, p)
	return string(got) == want && e == f
}

// same: all that can be asked of the first blocks, and of what is no block.
func same(c *Chip, m *model) bool {
	if c.On() != m.on || c.Ops() != m.ops || c.Wrong() != m.wrong || c.Geometry() != m.g {
		return false
	}
	for _, b := range []int{-1, 0, 1, 2, 3, 4, m.g.Blocks - 1, m.g.Blocks} {
		if c.Next(b) != m.next[b] || c.Erases(b) != m.erases[b] || c.Bad(b) != m.bad[b] {
			return false
		}
		for p := range m.g.Pages {
			got, e := c.Read(b, p)
			want, f := m.read(b, p)
			if string(got) != want || e != f {
				return false
			}
		}
	}
	return true
}

// P302 to P307: whatever the calls are, all that can be asked is as the chapter's words say, of clones too.
func TestAgainstModel(t *testing.T) {
	g := api.Geometry{Blocks: 16, Pages: 8, Page: 256, Reserve: 2}
	for seed := range int64(40) {
		r := rand.New(rand.NewSource(seed))
		plan := anyPlan(r)
		c, e := New(g, plan)
		if e != api.OK {
			t.Fatalf("New: %d", e)
		}
		m := newModel(g, plan)
		for i := range 300 {
			if r.Intn(20) == 0 { // the other one goes its own way
				twin, other := c, m
				c, m = c.Clone(), m.clone()
				if !step(r, twin, other) || !same(twin, other) {
					t.Fatalf("seed %d, step %d: the first of two differs", seed, i)
				}
			}
			if !step(r, c, m) || !same(c, m) {
				t.Fatalf("seed %d, step %d: the chip differs", seed, i)
			}
		}
	}
}

// P307: a call with an error other than EIO and ENXIO changes nothing but Wrong; what is read of a page changes only by Program of it and Erase of its block.
func TestLaws(t *testing.T) {
	g := api.Geometry{Blocks: 16, Pages: 8, Page: 256}
	for seed := range int64(10) {
		r := rand.New(rand.NewSource(seed))
		c, _ := New(g, anyPlan(r))
		for range 100 {
			b, p := r.Intn(4)-1, r.Intn(9)
			if r.Intn(2) == 0 {
				p = c.Next(b)
			}
			was := c.Clone()
			e, touches := call(r, c, b, p)
			if e != api.OK && e != api.EIO && e != api.ENXIO {
				was.wrong = c.Wrong()
				if seen(c) != seen(was) {
					t.Fatalf("seed %d: a call that said %d has changed the chip", seed, e)
				}
			}
			on, before := c.Clone(), was.Clone()
			on.Power()
			before.Power()
			for i := range g.Blocks {
				for j := range g.Pages {
					got, _ := on.Read(i, j)
					had, _ := before.Read(i, j)
					if string(got) != string(had) && !touches(i, j) {
						t.Fatalf("seed %d: page %d of block %d has changed", seed, j, i)
					}
				}
			}
		}
	}
}

// call: one by chance, and which pages it may change.
func call(r *rand.Rand, c *Chip, b, p int) (api.Errno, func(block, page int) bool) {
	none := func(int, int) bool { return false }
	switch r.Intn(12) {
	case 0:
		return c.Erase(b), func(i, j int) bool { return i == b }
	case 1:
		return c.Arm(anyPlan(r)), none
	case 2:
		return c.Arm([]api.Fault{{At: 1}}), none
	case 3:
		c.Power()
		return api.OK, none
	case 4:
		if r.Intn(10) == 0 {
			return c.Mark(b), none
		}
		_, e := c.Read(b, p)
		return e, none
	}
	return c.Program(b, p, make([]byte, r.Intn(258))), func(i, j int) bool { return i == b && j == p }
}
