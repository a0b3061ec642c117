package props

import (
	"fmt"
	"math/rand"
	"slices"
	"sort"
	"strings"
	"testing"

	"pumice/api"
)

func is[T comparable](t *testing.T, what string, got, want T) {
	t.Helper()
	if got != want {
		t.Errorf("%s: %s, not %s", what, shown(got), shown(want))
	}
}

func shown(x any) string {
	if s, ok := x.(string); ok {
		return fmt.Sprintf("%q", s)
	}
	return fmt.Sprintf("%+v", x)
}

func same(t *testing.T, what string, got, want []int) {
	t.Helper()
	if !slices.Equal(got, want) {
		t.Errorf("%s: %v, not %v", what, got, want)
	}
}

func made(t *testing.T, n, size int) *Book {
	t.Helper()
	b, errno := New(n, size)
	if errno != api.OK || b == nil {
		t.Fatalf("New(%d, %d): %d", n, size, errno)
	}
	return b
}

func parsed(t *testing.T, text string) *Book {
	t.Helper()
	b, errno := Parse(text)
	if errno != api.OK || b == nil {
		t.Fatalf("Parse(%q): %d", text, errno)
	}
	return b
}

// kept: a taken block in the model. What is used is not kept, but is made of the others.
type kept struct {
	use, live, dirty int
	closed           bool
}

// model: a book in the chapter's words.
type model struct {
	n, size int
	taken   map[int]kept
}

func modelOf(n, size int) *model { return &model{n: n, size: size, taken: map[int]kept{}} }

// rule: an error, and when it applies.
type rule struct {
	applies bool
	errno   api.Errno
}

func firstOf(rules ...rule) api.Errno {
	for _, r := range rules {
		if r.applies {
			return r.errno
		}
	}
	return api.OK
}

func (m *model) beyond(leb int) rule { return rule{leb < 0 || leb >= m.n, api.EINVAL} }

func (m *model) free(leb int) bool {
	_, ok := m.taken[leb]
	return !ok
}

func (m *model) take(leb, use int) api.Errno {
	errno := firstOf(m.beyond(leb), rule{use != 1 && use != 2 && use != 3, api.EINVAL}, rule{!m.free(leb), api.EBUSY})
	if errno == api.OK {
		m.taken[leb] = kept{use: use}
	}
	return errno
}

func (m *model) useMore(leb, bytes int) api.Errno {
	x := m.taken[leb]
	errno := firstOf(m.beyond(leb), rule{bytes < 0, api.EINVAL}, rule{m.free(leb), api.ENOENT}, rule{x.closed, api.EBUSY}, rule{bytes > m.size-x.live-x.dirty, api.ENOSPC})
	if errno == api.OK {
		x.live += bytes
		m.taken[leb] = x
	}
	return errno
}

func (m *model) kill(leb, bytes int) api.Errno {
	x := m.taken[leb]
	errno := firstOf(m.beyond(leb), rule{bytes < 0, api.EINVAL}, rule{m.free(leb), api.ENOENT}, rule{bytes > x.live, api.ENOSPC})
	if errno == api.OK {
		x.live -= bytes
		x.dirty += bytes
		m.taken[leb] = x
	}
	return errno
}

func (m *model) shut(leb int) api.Errno {
	x := m.taken[leb]
	errno := firstOf(m.beyond(leb), rule{m.free(leb), api.ENOENT})
	if errno == api.OK {
		x.closed = true
		m.taken[leb] = x
	}
	return errno
}

func (m *model) release(leb int) api.Errno {
	errno := firstOf(m.beyond(leb), rule{m.taken[leb].live != 0, api.EBUSY})
	if errno == api.OK {
		delete(m.taken, leb)
	}
	return errno
}

func (m *model) frees() []int {
	l := []int{}
	for leb := range m.n {
		if m.free(leb) {
			l = append(l, leb)
		}
	}
	return l
}

func (m *model) of(use int) []int {
	l := []int{}
	for leb, x := range m.taken {
		if x.use == use {
			l = append(l, leb)
		}
	}
	sort.Ints(l)
	return l
}

// victims: the one with the most dirty bytes is taken out again and again.
func (m *model) victims(use int) []int {
	l := []int{}
	for {
		best := -1
		for _, leb := range m.of(use) {
			x := m.taken[leb]
			if x.closed && x.dirty > 0 && !slices.Contains(l, leb) && (best < 0 || x.dirty > m.taken[best].dirty) {
				best = leb
			}
		}
		if best < 0 {
			return l
		}
		l = append(l, best)
	}
}

func (m *model) text() string {
	var s strings.Builder
	fmt.Fprintf(&s, "%d %d\n", m.n, m.size)
	for leb := range m.n {
		x, ok := m.taken[leb]
		switch {
		case ok && x.closed:
			fmt.Fprintf(&s, "%d %d %d %d closed\n", leb, x.use, x.live+x.dirty, x.live)
		case ok:
			fmt.Fprintf(&s, "%d %d %d %d\n", leb, x.use, x.live+x.dirty, x.live)
		}
	}
	return s.String()
}

// held: all that the book tells is what the model says.
func (m *model) held(t *testing.T, what string, b *Book) {
	t.Helper()
	free, used, live, dirty := m.n-len(m.taken), 0, 0, 0
	for leb := range m.n {
		x := m.taken[leb]
		got, errno := b.Block(leb)
		is(t, fmt.Sprint(what, ": Block's errno of ", leb), errno, api.OK)
		is(t, fmt.Sprint(what, ": Block of ", leb), got, Block{Use: x.use, Used: x.live + x.dirty, Live: x.live, Closed: x.closed})
		used, live, dirty = used+x.live+x.dirty, live+x.live, dirty+x.dirty
	}
	totals(t, what, b, free, used, live, dirty)
	same(t, what+": Frees", b.Frees(), m.frees())
	least, ok := b.Least()
	is(t, what+": Least's ok", ok, free > 0)
	is(t, what+": Least", least, append(m.frees(), 0)[0])
	for use := -1; use <= 5; use++ {
		same(t, fmt.Sprint(what, ": Of ", use), b.Of(use), m.of(use))
		same(t, fmt.Sprint(what, ": Victims of ", use), b.Victims(use), m.victims(use))
	}
	is(t, what+": Text", b.Text(), m.text())
}

func totals(t *testing.T, what string, b *Book, free, used, live, dirty int) {
	t.Helper()
	f, u, l, d := b.Totals()
	is(t, what+": Totals", [4]int{f, u, l, d}, [4]int{free, used, live, dirty})
}

// pair: a book with its model, to which the same calls are made. Behind each call the book is held against the model, which an error leaves as it is.
type pair struct {
	b *Book
	m *model
}

func paired(t *testing.T, n, size int) *pair {
	t.Helper()
	p := &pair{made(t, n, size), modelOf(n, size)}
	p.m.held(t, fmt.Sprintf("New(%d, %d)", n, size), p.b)
	return p
}

func (p *pair) answered(t *testing.T, what string, got, model, want api.Errno) {
	t.Helper()
	is(t, what, got, want)
	is(t, what+" in the model", model, want)
	p.m.held(t, "behind "+what, p.b)
}

func (p *pair) take(t *testing.T, leb, use int, want api.Errno) {
	t.Helper()
	p.answered(t, fmt.Sprintf("Take(%d, %d)", leb, use), p.b.Take(leb, use), p.m.take(leb, use), want)
}

func (p *pair) use(t *testing.T, leb, bytes int, want api.Errno) {
	t.Helper()
	p.answered(t, fmt.Sprintf("Use(%d, %d)", leb, bytes), p.b.Use(leb, bytes), p.m.useMore(leb, bytes), want)
}

func (p *pair) kill(t *testing.T, leb, bytes int, want api.Errno) {
	t.Helper()
	p.answered(t, fmt.Sprintf("Kill(%d, %d)", leb, bytes), p.b.Kill(leb, bytes), p.m.kill(leb, bytes), want)
}

func (p *pair) shut(t *testing.T, leb int, want api.Errno) {
	t.Helper()
	p.answered(t, fmt.Sprintf("Close(%d)", leb), p.b.Close(leb), p.m.shut(leb), want)
}

func (p *pair) release(t *testing.T, leb int, want api.Errno) {
	t.Helper()
	p.answered(t, fmt.Sprintf("Free(%d)", leb), p.b.Free(leb), p.m.release(leb), want)
}

// lay: a block as it is to be, out of calls that are OK.
func (p *pair) lay(t *testing.T, leb int, x Block) {
	t.Helper()
	p.take(t, leb, x.Use, api.OK)
	p.use(t, leb, x.Used, api.OK)
	p.kill(t, leb, x.Used-x.Live, api.OK)
	if x.Closed {
		p.shut(t, leb, api.OK)
	}
}

// chance: a source that tells the same numbers each time.
func chance(seed int) *rand.Rand { return rand.New(rand.NewSource(int64(seed))) }
