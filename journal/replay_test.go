package journal

import (
	"fmt"
	"math"
	"slices"
	"strings"
	"testing"

	"pumice/api"
	"pumice/ebm"
	"pumice/scan"
	"pumice/wbuf"
)

// stands: a group as it stands at these places.
func stands(places []Place, g ...api.Node) Group { return Group{g, places} }

// joined: the payloads of a head and of groups, one behind the other.
func joined(parts ...[][]byte) [][]byte { return slices.Concat(parts...) }

// headAlone: the payload of a head, as a list.
func headAlone(epoch uint64, number int) [][]byte { return [][]byte{headOf(epoch, number)} }

// TestReplayNothing: of a chip with no journal, whatever its logical blocks begin with.
func TestReplayNothing(t *testing.T) {
	m := formatted(t, small)
	is(t, "groups of a new chip", len(replays(t, "new", m, 0)), 0)
	is(t, "groups of a new chip", len(replays(t, "new", m, math.MaxUint64)), 0)
	a := groupOf(put("a", "1"))[0]
	head := headOf(3, 0)
	for i, first := range [][]byte{
		a,
		[]byte("pumice1"),
		[]byte("H"),
		head[:10],
		append(slices.Clone(head), 0),
		append([]byte("h"), head[1:]...),
		append([]byte("N"), head[1:]...),
		append([]byte{0}, head...),
		make([]byte, 11),
		headOf(4, 0),
		headOf(3, 1),
		headOf(3|1<<56, 0),
		headOf(3, 256),
	} {
		laid(t, m, 5, first, a)
		is(t, fmt.Sprint("groups behind frame ", i), len(replays(t, "no head", m, 3)), 0)
		laid(t, m, 6, first, head, a)
		is(t, fmt.Sprint("groups behind frame ", i, " and a head"), len(replays(t, "a head behind", m, 3)), 0)
	}
	// a head's bytes without a frame, and a frame with another sum
	is(t, "Change", m.Change(5, [][]byte{head}), api.OK)
	frame := frameOf(head)
	frame[2]++
	is(t, "Change", m.Change(6, [][]byte{frame}), api.OK)
	is(t, "groups", len(replays(t, "no frame", m, 3)), 0)
	laid(t, m, 7, head, a)
	is(t, "groups of a segment", len(replays(t, "a segment", m, 3, 7)), 1)
}

// TestReplayOrder: segments in the order of their numbers, wherever they stand.
func TestReplayOrder(t *testing.T) {
	m := formatted(t, small)
	var want []Group
	lebs := []int{11, 1, 7, 3, 10}
	for n, leb := range lebs {
		a, b := put(fmt.Sprint("a", n), "1"), gone("b")
		p := laid(t, m, leb, joined(headAlone(8, n), groupOf(a), groupOf(b, a))...)
		want = append(want, stands(p[1:2], a), stands(p[2:], b, a))
	}
	got := replays(t, "Replay", m, 8, lebs...)
	alike(t, "Replay", got, want)
	loads(t, "Replay", m, got)
	ops, was := m.Chip().Ops(), others(t, m)
	alike(t, "once more", replays(t, "Replay", m, 8, lebs...), want)
	is(t, "operations", m.Chip().Ops(), ops)
	is(t, "logical blocks", others(t, m), was)
}

// TestReplayHeadsAlone: segments without a group are told, and groups behind them.
func TestReplayHeadsAlone(t *testing.T) {
	m := formatted(t, small)
	laid(t, m, 4, headOf(1, 0))
	laid(t, m, 2, headOf(1, 1))
	is(t, "groups", len(replays(t, "heads", m, 1, 4, 2)), 0)
	p := laid(t, m, 3, joined(headAlone(1, 2), groupOf(put("a", "1")))...)
	alike(t, "heads", replays(t, "heads", m, 1, 4, 2, 3), []Group{stands(p[1:], put("a", "1"))})
}

// TestReplayBehindFilling: a log begins with its first frame, also where pages of filling stand ahead of it.
func TestReplayBehindFilling(t *testing.T) {
	m := formatted(t, small)
	head, node := frameOf(headOf(1, 0)), frameOf(nodeOf(put("a", "1"), true))
	is(t, "Change", m.Change(4, [][]byte{nil, nil, head, node}), api.OK)
	alike(t, "filling", replays(t, "filling", m, 1, 4), []Group{stands([]Place{{4, 192}}, put("a", "1"))})
	for i, pages := range [][][]byte{{nil}, {nil, nil}, {nil, append([]byte{0xff, 0xff}, head...), head}, {nil, node, head}, {[]byte("x"), head}} {
		is(t, "Change", m.Change(4, pages), api.OK)
		is(t, fmt.Sprint("groups of other pages ", i), len(replays(t, "no head", m, 1)), 0)
	}
}

// TestReplayTwoOfOneNumber: the one with the lesser leb counts.
func TestReplayTwoOfOneNumber(t *testing.T) {
	m := formatted(t, small)
	place := map[int][]Place{}
	segment := func(leb, number int) {
		place[leb] = laid(t, m, leb, joined(headAlone(2, number), groupOf(put("leb", fmt.Sprint(leb))))...)[1:]
	}
	told := func(lebs ...int) {
		t.Helper()
		var want []Group
		for _, leb := range lebs {
			want = append(want, stands(place[leb], put("leb", fmt.Sprint(leb))))
		}
		alike(t, "Replay", replays(t, "Replay", m, 2, lebs...), want)
	}
	segment(7, 0)
	told(7)
	segment(9, 0)
	told(7)
	segment(4, 0)
	told(4)
	segment(10, 1)
	segment(3, 1)
	segment(11, 1)
	told(4, 3)
	segment(2, 2)
	segment(8, 2)
	told(4, 3, 2)
	is(t, "Unmap", m.Unmap(3), api.OK)
	told(4, 10, 2)
	is(t, "Unmap", m.Unmap(4), api.OK)
	told(7, 10, 2)
}

// TestReplayMissingNumber: what stands behind a number that is missing is not told.
func TestReplayMissingNumber(t *testing.T) {
	m := formatted(t, small)
	group := groupOf(put("a", "1"))
	for leb, number := range map[int]int{5: 0, 6: 1, 1: 3, 8: 4, 9: 65535, 10: 256} {
		laid(t, m, leb, joined(headAlone(7, number), group)...)
	}
	is(t, "groups", len(replays(t, "2 is missing", m, 7, 5, 6)), 2)
	laid(t, m, 2, joined(headAlone(7, 2), group)...)
	is(t, "groups", len(replays(t, "2 is there", m, 7, 5, 6, 2, 1, 8)), 5)
	is(t, "Unmap", m.Unmap(5), api.OK)
	is(t, "groups", len(replays(t, "0 is missing", m, 7)), 0)
}

// TestReplayNotWhole: a group that is not whole ends what is told, in its own segment and in the next.
func TestReplayNotWhole(t *testing.T) {
	a, b, c := put("a", "1"), put("b", ""), gone("c")
	open := [][]byte{nodeOf(a, false)}
	two := [][]byte{nodeOf(a, false), nodeOf(c, false)}
	for name, tail := range map[string][][]byte{
		"a node":                    open,
		"two":                       two,
		"a node and a head":         joined(open, headAlone(5, 0), groupOf(b)),
		"a node and another frame":  joined(open, [][]byte{[]byte("X")}, groupOf(b)),
		"two and another frame":     joined(two, [][]byte{[]byte("N\x04\x01a")}, groupOf(b)),
		"another frame":             joined([][]byte{[]byte("X")}, groupOf(b)),
		"a head":                    joined(headAlone(5, 1), groupOf(b)),
		"another frame, and a node": joined([][]byte{[]byte("X")}, open),
	} {
		for _, ahead := range []int{0, 1, 3} {
			m := formatted(t, small)
			payloads, want := headAlone(5, 0), []Group(nil)
			for range ahead {
				payloads = joined(payloads, groupOf(b, c))
			}
			p := laid(t, m, 4, joined(payloads, tail)...)
			for i := range ahead {
				want = append(want, stands(p[1+2*i:3+2*i], b, c))
			}
			alike(t, name, replays(t, name, m, 5, 4), want)
			laid(t, m, 2, joined(headAlone(5, 1), groupOf(a), groupOf(b))...)
			alike(t, name+", a segment behind it", replays(t, name, m, 5, 4, 2), want)
			laid(t, m, 3, joined(headAlone(5, 2), groupOf(a))...)
			alike(t, name+", two behind it", replays(t, name, m, 5, 4, 2, 3), want)
		}
	}
}

// TestReplayWholeInOneSegment: a group is not gone on with in the next segment.
func TestReplayWholeInOneSegment(t *testing.T) {
	m := formatted(t, small)
	p := laid(t, m, 4, headOf(5, 0), nodeOf(put("a", "1"), true), nodeOf(put("b", "2"), false))
	laid(t, m, 3, headOf(5, 1), nodeOf(put("c", "3"), true))
	alike(t, "Replay", replays(t, "Replay", m, 5, 4, 3), []Group{stands(p[1:2], put("a", "1"))})
}

// TestReplayCutShort: a segment whose last pages are not there: the group that stood there is not whole, of one node too.
func TestReplayCutShort(t *testing.T) {
	m := formatted(t, small)
	p := paired(m, 5)
	p.add(t, 4)
	for i := range 12 {
		p.append(t, one(70+i*7, i)...)
		p.append(t, put(text(30, i), text(40, i)), gone("x"), put("y", text(60, i)))
	}
	p.add(t, 2)
	p.append(t, put("a", "1"))
	p.sync(t)
	whole := p.m.segments[0].data
	for pages := 1; pages <= len(whole)/64; pages++ {
		what := fmt.Sprint(pages, " pages")
		cut := whole[:pages*64]
		is(t, what, m.Change(4, slices.Collect(slices.Chunk(cut, 64))), api.OK)
		n := slices.IndexFunc(p.m.groups, func(g Group) bool {
			end := g.Places[len(g.Places)-1].Pos + len(frameOf(nodeOf(g.Nodes[len(g.Nodes)-1], true)))
			return g.Places[0].Leb == 2 || end > len(cut)
		})
		if g := p.m.groups[n]; g.Places[0].Leb == 2 || g.Places[0].Pos >= len(cut) {
			n = -1 // the pages end just where a group does, so nothing says that more stood there
		}
		got := replays(t, what, m, 5, 4, 2)
		if n >= 0 {
			alike(t, what, got, p.m.groups[:n])
		}
	}
	alike(t, "all", replays(t, "all", m, 5, 4, 2), p.m.groups)
}

// TestNodeFrames: which frames are a node's, and what they say; of others nothing is told, and nothing loaded.
func TestNodeFrames(t *testing.T) {
	k64, k65 := strings.Repeat("k", 64), strings.Repeat("k", 65)
	for _, c := range []struct {
		payload string
		node    api.Node
		last    bool
	}{
		{"N\x00\x01a", put("a", ""), false},
		{"N\x01\x01a", gone("a"), false},
		{"N\x02\x01a", put("a", ""), true},
		{"N\x03\x01a", gone("a"), true},
		{"N\x02\x01ab", put("a", "b"), true},
		{"N\x02\x02ab", put("ab", ""), true},
		{"N\x02\x01\x00\xff\xff", put("\x00", "\xff\xff"), true},
		{"N\x02\x40" + k64, put(k64, ""), true},
		{"N\x03\x40" + k64, gone(k64), true},
		{"N\x02\x40" + k64 + text(256, 1), put(k64, text(256, 1)), true},
		// none of a node's
		{"N", api.Node{}, false},
		{"N\x02", api.Node{}, false},
		{"N\x02\x00", api.Node{}, false},
		{"N\x02\x00v", api.Node{}, false},
		{"N\x03\x00", api.Node{}, false},
		{"N\x02\x01", api.Node{}, false},
		{"N\x02\x03ab", api.Node{}, false},
		{"N\x02\xffab", api.Node{}, false},
		{"N\x02\x40" + k64[1:], api.Node{}, false},
		{"N\x02\x41" + k65, api.Node{}, false},
		{"N\x03\x41" + k65, api.Node{}, false},
		{"N\x02\x01a" + text(257, 1), api.Node{}, false},
		{"N\x03\x01ab", api.Node{}, false},
		{"N\x01\x01ab", api.Node{}, false},
		{"N\x04\x01a", api.Node{}, false},
		{"N\x06\x01a", api.Node{}, false},
		{"N\x82\x01a", api.Node{}, false},
		{"N\xff\x01a", api.Node{}, false},
		{"n\x02\x01a", api.Node{}, false},
		{"H\x02\x01a", api.Node{}, false},
		{"\x00N\x02\x01a", api.Node{}, false},
		{string(headOf(5, 0)), api.Node{}, false},
	} {
		m := formatted(t, small)
		what := shown(c.payload)
		p := laid(t, m, 4, headOf(5, 0), nodeOf(put("first", ""), true), []byte(c.payload), nodeOf(put("last", ""), true))
		want := []Group{stands(p[1:2], put("first", ""))}
		switch {
		case c.last:
			want = append(want, stands(p[2:3], c.node), stands(p[3:], put("last", "")))
		case c.node != api.Node{}:
			want = append(want, stands(p[2:], c.node, put("last", "")))
		}
		alike(t, what, replays(t, what, m, 5, 4), want)
		n, errno := Load(m, p[2])
		is(t, what+": Load", n, c.node)
		is(t, what+": Load", errno, map[bool]api.Errno{true: api.EINVAL}[c.node == api.Node{}])
		n, errno = Load(m, p[3])
		is(t, what+": Load of the next", n, put("last", ""))
		is(t, what+": Load of the next", errno, api.OK)
	}
}

// TestFlags: of all bytes four are a node's flags.
func TestFlags(t *testing.T) {
	m := formatted(t, small)
	for flags := range 256 {
		laid(t, m, 4, headOf(5, 0), []byte{'N', byte(flags), 1, 'a'})
		got := replays(t, fmt.Sprint("flags ", flags), m, 5, 4)
		is(t, fmt.Sprint("groups of flags ", flags), len(got), map[int]int{2: 1, 3: 1}[flags])
		for _, g := range got {
			is(t, "Gone", g.Nodes[0].Gone, flags == 3)
		}
		n, errno := Load(m, Place{4, 17})
		is(t, fmt.Sprint("Load of flags ", flags), errno == api.OK, flags < 4)
		is(t, "Gone", n.Gone, flags == 1 || flags == 3)
	}
}

// TestLoadPlaces: of all places of a log just those of nodes have one.
func TestLoadPlaces(t *testing.T) {
	m := formatted(t, small)
	p := paired(m, 5)
	p.add(t, 4)
	// a Value that has a node's frame in it: within a frame no other begins
	inner := string(frameOf(nodeOf(put("inner", "i"), true)))
	nodes := map[Place]api.Node{}
	for n, g := range [][]api.Node{
		{put("a", inner+inner)},
		one(63, 3), // from a page's beginning to the last byte but one
		{put("b", text(100, 1)), gone("c"), put("d", inner)},
		one(200, 4),
		one(10, 5),
	} {
		for i, at := range p.append(t, g...) {
			nodes[at] = g[i]
		}
		if n != 1 {
			p.sync(t)
		}
	}
	is(t, "nodes", len(nodes), 7)
	for leb := range m.Lebs() {
		for pos := -70; pos < 31*64; pos++ {
			at := Place{leb, pos}
			want, ok := nodes[at]
			n, errno := Load(m, at)
			is(t, fmt.Sprint("Load ", at), n, want)
			is(t, fmt.Sprint("Load ", at), errno, map[bool]api.Errno{false: api.EINVAL}[ok])
		}
	}
	for _, at := range []Place{{-1, 17}, {12, 17}, {math.MinInt, 17}, {math.MaxInt, 17}, {4, math.MinInt}, {4, math.MaxInt}, {4, 1 << 32}, {4 + 1<<32, 17}, {-1, -1}} {
		n, errno := Load(m, at)
		is(t, fmt.Sprint("Load ", at), errno, api.EINVAL)
		is(t, "the node", n, api.Node{})
	}
}

// TestLoadKept: what is only kept does not stand on the chip, so no manager loads it.
func TestLoadKept(t *testing.T) {
	m := formatted(t, small)
	p := paired(m, 5)
	p.add(t, 4)
	at := p.append(t, put("a", "1"))[0]
	_, errno := Load(m, at)
	is(t, "Load ahead of Sync", errno, api.EINVAL)
	p.sync(t)
	n, errno := Load(m, at)
	is(t, "Load", errno, api.OK)
	is(t, "the node", n, put("a", "1"))
}

// TestLoadWithoutHead: a node's frame is one, whatever the log begins with, and behind whatever frames.
func TestLoadWithoutHead(t *testing.T) {
	m := formatted(t, small)
	p := laid(t, m, 4, nodeOf(put("a", "1"), false), []byte("X"), nodeOf(gone("b"), true))
	for i, want := range []api.Node{put("a", "1"), {}, gone("b")} {
		n, errno := Load(m, p[i])
		is(t, "Load", n, want)
		is(t, "Load", errno, map[bool]api.Errno{true: api.EINVAL}[i == 1])
	}
	is(t, "groups", len(replays(t, "no head", m, 5)), 0)
}

// TestUnreadable: a segment whose pages can't be read: EIO; those of others go on.
func TestUnreadable(t *testing.T) {
	m := formatted(t, small)
	p, q := paired(m, 1), paired(m, 2)
	for i, leb := range []int{3, 5} {
		p.add(t, leb)
		p.append(t, one(100, i)...)
		q.add(t, leb+1)
		q.append(t, one(90, i)...)
	}
	p.sync(t)
	q.sync(t)
	spoil(t, m, 5)
	for _, epoch := range []uint64{1, 2, 3} {
		g, l, errno := Replay(m, epoch)
		is(t, "Replay", errno, api.EIO) // whose segment it is nobody can tell
		is(t, "groups", len(g)+len(l), 0)
	}
	n, errno := Load(m, Place{5, 17})
	is(t, "Load", errno, api.EIO)
	is(t, "the node", n, api.Node{})
	n, errno = Load(m, Place{3, 17})
	is(t, "Load of another", errno, api.OK)
	is(t, "the node", n, p.m.groups[0].Nodes[0])
	darken(t, m.Chip())
	_, _, errno = Replay(m, 1)
	is(t, "Replay, off", errno, api.ENXIO)
	_, errno = Load(m, Place{5, 17})
	is(t, "Load, off", errno, api.ENXIO)
}

// tear: a page of a logical block can't be read any more, and those behind it are erased.
func tear(t *testing.T, m *ebm.Manager, leb, page int) {
	t.Helper()
	c := m.Chip()
	l, errno := scan.Scan(c)
	is(t, "Scan", errno, api.OK)
	n := scan.Find(l, leb)
	var pages [][]byte
	for i := range 2 + page {
		data, errno := c.Read(n, i)
		is(t, "Read", errno, api.OK)
		pages = append(pages, data)
	}
	is(t, "Erase", c.Erase(n), api.OK)
	for i, data := range pages {
		is(t, "Program", c.Program(n, i, data), api.OK)
	}
	arm(t, c, api.Fault{At: 1, Kind: api.Fail})
	is(t, "Program", c.Program(n, 2+page, nil), api.EIO)
}

// TestUnreadableBehindHead: a page of a segment can't be read: EIO for its own epoch alone.
func TestUnreadableBehindHead(t *testing.T) {
	m := formatted(t, small)
	p, q := paired(m, 1), paired(m, 2)
	for leb := 3; leb <= 6; leb++ {
		x := []pair{p, q}[leb%2]
		x.add(t, leb)
		x.append(t, one(100, leb)...)
		x.append(t, one(150, leb)...)
	}
	p.sync(t)
	q.sync(t)
	for leb, page := range map[int]int{4: 2, 6: 1} {
		m := attached(t, m.Chip().Clone())
		tear(t, m, leb, page)
		g, l, errno := Replay(m, 1)
		is(t, "Replay", errno, api.EIO)
		is(t, "groups", len(g)+len(l), 0)
		_, errno = Load(m, Place{leb, 17})
		is(t, "Load", errno, api.EIO)
		_, errno = Load(m, Place{leb, -1})
		is(t, "Load of no place", errno, api.EINVAL)
		q.m.told(t, "the other", m)
	}
}

// TestOtherEpochs: two journals at once, in turns; none is told of the other, whatever stands in its segments.
func TestOtherEpochs(t *testing.T) {
	for _, g := range []api.Geometry{small, tight} {
		m := formatted(t, g)
		p, q := paired(m, 1), paired(m, 2)
		for i := range 10 {
			turn := []pair{p, q}[i%2]
			if i%4 < 2 {
				turn.add(t, i+1)
			}
			turn.append(t, put("same", fmt.Sprint(i)), gone(fmt.Sprint(i)))
			turn.append(t, greatest()...)
			if i%3 == 0 {
				turn.sync(t)
			}
			p.m.held(t, "the one", p.j)
			q.m.held(t, "the other", q.j)
		}
		p.sync(t)
		q.sync(t)
		p.m.heldByAll(t, "the one", p.j)
		q.m.heldByAll(t, "the other", q.j)
		is(t, "groups of a third", len(replays(t, "a third", m, 3)), 0)
		for i, leb := range q.j.Segments() { // what stands there now is no journal's, or half of one
			laid(t, m, leb, []byte("H"), groupOf(put("x", "y"))[0])
			if i%2 == 0 {
				is(t, "Change", m.Change(leb, [][]byte{frameOf(headOf(2, i)), []byte("\x05\x00spoilt")}), api.OK)
			}
			p.m.heldByAll(t, "the one alone", p.j)
		}
	}
}

// TestReplayIsNew: no two lists of an answer share memory, nor do two answers.
func TestReplayIsNew(t *testing.T) {
	m := formatted(t, small)
	p := paired(m, 1)
	for leb := 1; leb < 4; leb++ {
		p.add(t, leb)
		for i := range 5 {
			p.append(t, one(20+i, i)...)
			p.append(t, many(i+1)...)
		}
	}
	p.sync(t)
	first, lebs, _ := Replay(m, 1)
	second, _, _ := Replay(m, 1)
	clear(lebs[:cap(lebs)])
	for _, g := range first {
		for i := range g.Nodes {
			is(t, "a node", g.Nodes[i] != api.Node{} && g.Places[i] != Place{}, true)
		}
		clear(g.Nodes[:cap(g.Nodes)])
		clear(g.Places[:cap(g.Places)])
	}
	clear(first[:cap(first)])
	alike(t, "the second", second, p.m.groups)
	p.m.heldByAll(t, "behind the change", p.j)
}

// TestClosedSegment: a page that was torn behind whole groups: nothing is missing but what was to stand there.
func TestClosedSegment(t *testing.T) {
	m := formatted(t, small)
	p := paired(m, 1)
	p.add(t, 5)
	p.append(t, put("a", "1"))
	p.sync(t)
	l, errno := wbuf.Open(m, 5)
	is(t, "Open", errno, api.OK)
	_, errno = l.Append(nodeOf(put("b", "2"), true))
	is(t, "Append to the log", errno, api.OK)
	arm(t, m.Chip(), api.Fault{At: 1, Kind: api.Cut, Torn: 1})
	is(t, "Sync of the log", l.Sync(), api.ENXIO)
	m.Chip().Power()
	m = attached(t, m.Chip())
	is(t, "Closed", m.Closed(5), true)
	p.m.told(t, "closed", m)
	laid(t, m, 6, joined(headAlone(1, 1), groupOf(put("c", "3")))...)
	alike(t, "a segment behind it", replays(t, "closed", m, 1, 5, 6), p.m.groups)
}
