package journal

import (
	"fmt"
	"math"
	"strings"
	"testing"

	"pumice/api"
	"pumice/ebm"
)

func TestExample(t *testing.T) {
	m := formatted(t, small)
	j := New(m, 3)
	is(t, "Add", j.Add(5), api.OK)
	p, errno := j.Append([]api.Node{put("a", "1")})
	is(t, "Append", errno, api.OK)
	q, errno := j.Append([]api.Node{put("b", "2"), gone("a")})
	is(t, "Append", errno, api.OK)
	is(t, "Sync", j.Sync(), api.OK)
	// a head of 17 bytes, nodes of 11, 11 and 10
	lists(t, "places", p, []Place{{5, 17}})
	lists(t, "places", q, []Place{{5, 28}, {5, 39}})
	alike(t, "Replay", replays(t, "Replay", m, 3, 5), []Group{
		{[]api.Node{put("a", "1")}, []Place{{5, 17}}},
		{[]api.Node{put("b", "2"), gone("a")}, []Place{{5, 28}, {5, 39}}},
	})
	is(t, "groups of another epoch", len(replays(t, "Replay", m, 4)), 0)
}

// TestBytes: what stands on the chip, byte by byte.
func TestBytes(t *testing.T) {
	m := formatted(t, small)
	j := New(m, 0x0102030405060708)
	is(t, "Add", j.Add(5), api.OK)
	is(t, "Add", j.Add(2), api.OK)
	_, errno := j.Append([]api.Node{put("ab", "xyz"), gone("c"), put("d", "")})
	is(t, "Append", errno, api.OK)
	_, errno = j.Append([]api.Node{gone("e")})
	is(t, "Append", errno, api.OK)
	is(t, "Sync", j.Sync(), api.OK)
	first, second := string(onChip(t, m, 5)), string(onChip(t, m, 2))
	is(t, "a head's size", first[:2], "\x0b\x00")
	is(t, "a head", first[6:17], "H\x08\x07\x06\x05\x04\x03\x02\x01\x00\x00")
	is(t, "filling", first[17:], strings.Repeat("\xff", 47))
	is(t, "the second head", second[6:17], "H\x08\x07\x06\x05\x04\x03\x02\x01\x01\x00")
	is(t, "a node's size", second[17:19], "\x08\x00")
	is(t, "a node", second[23:31], "N\x00\x02abxyz")
	is(t, "a node that is gone", second[37:41], "N\x01\x01c")
	is(t, "the last node", second[47:51], "N\x02\x01d")
	is(t, "the last node, gone", second[57:61], "N\x03\x01e")
	is(t, "filling", second[61:], "\xff\xff\xff")
}

// TestNew: a journal of any epoch, and nothing on the chip changes.
func TestNew(t *testing.T) {
	m := formatted(t, small)
	is(t, "Write", m.Write(3, []byte("x")), api.OK)
	was, ops := others(t, m), m.Chip().Ops()
	for _, epoch := range []uint64{0, 1, math.MaxInt64, math.MaxUint64} {
		j := New(m, epoch)
		if j == nil {
			t.Fatal("no journal")
		}
		is(t, "segments", len(j.Segments()), 0)
		is(t, "Sync", j.Sync(), api.OK)
		is(t, "Fits", j.Fits([]api.Node{put("a", "")}), false)
		is(t, "groups", len(replays(t, "New", m, epoch)), 0)
	}
	is(t, "operations", m.Chip().Ops(), ops)
	is(t, "logical blocks", others(t, m), was)
}

// TestEpochs: a head tells the whole of an epoch.
func TestEpochs(t *testing.T) {
	epochs := []uint64{0, 1, 255, 256, 1 << 32, 1 << 63, math.MaxUint64 - 1, math.MaxUint64}
	m := formatted(t, small)
	for i, epoch := range epochs {
		p := paired(m, epoch)
		p.add(t, i+1)
		p.append(t, put("epoch", fmt.Sprint(epoch)))
		p.sync(t)
		p.m.heldByAll(t, fmt.Sprint("epoch ", epoch), p.j)
	}
	for i, epoch := range epochs {
		got := replays(t, "Replay", m, epoch, i+1)
		is(t, "groups", len(got), 1)
		is(t, "Value", got[0].Nodes[0].Value, fmt.Sprint(epoch))
	}
	for _, epoch := range []uint64{2, 1<<32 + 1, 1 << 40, 1<<63 - 1, math.MaxUint32} {
		is(t, "groups of no journal", len(replays(t, "Replay", m, epoch)), 0)
	}
}

// many: a group of so many nodes, of the shortest frames.
func many(n int) []api.Node {
	var g []api.Node
	for i := range n {
		g = append(g, put(string([]byte{byte(i)}), ""))
	}
	return g
}

// long: a node with a Key and a Value of so many bytes.
func long(key, value int) api.Node {
	return put(strings.Repeat("k", key), strings.Repeat("v", value))
}

func TestRight(t *testing.T) {
	for _, c := range []struct {
		name string
		g    []api.Node
		want api.Errno
	}{
		{"nil", nil, api.EINVAL},
		{"no node", []api.Node{}, api.EINVAL},
		{"one node", many(1), api.OK},
		{"two", many(2), api.OK},
		{"MaxGroup", many(api.MaxGroup), api.OK},
		{"one more", many(api.MaxGroup + 1), api.EINVAL},
		{"very many", many(5000), api.EINVAL},
		{"the zero node", []api.Node{{}}, api.EINVAL},
		{"a Key of no byte", []api.Node{long(0, 1)}, api.EINVAL},
		{"a Key of no byte, Gone", []api.Node{gone("")}, api.EINVAL},
		{"a Key of 1", []api.Node{long(1, 1)}, api.OK},
		{"a Key of MaxKey", []api.Node{long(api.MaxKey, 1)}, api.OK},
		{"a Key of one more", []api.Node{long(api.MaxKey+1, 1)}, api.EINVAL},
		{"a Key of 256", []api.Node{long(256, 1)}, api.EINVAL},
		{"a Key of 257", []api.Node{long(257, 1)}, api.EINVAL},
		{"a Key of many", []api.Node{long(1<<20, 1)}, api.EINVAL},
		{"no Value", []api.Node{long(1, 0)}, api.OK},
		{"a Value of MaxValue", []api.Node{long(1, api.MaxValue)}, api.OK},
		{"a Value of one more", []api.Node{long(1, api.MaxValue+1)}, api.EINVAL},
		{"a Value of many", []api.Node{long(1, 1<<20)}, api.EINVAL},
		{"the greatest node", []api.Node{long(api.MaxKey, api.MaxValue)}, api.OK},
		{"Gone", []api.Node{gone("a")}, api.OK},
		{"Gone, the longest Key", []api.Node{gone(strings.Repeat("k", api.MaxKey))}, api.OK},
		{"Gone, too long a Key", []api.Node{gone(strings.Repeat("k", api.MaxKey+1))}, api.EINVAL},
		{"Gone with a Value", []api.Node{{Key: "a", Value: "v", Gone: true}}, api.EINVAL},
		{"Gone with a Value of MaxValue", []api.Node{{Key: "a", Value: strings.Repeat("v", api.MaxValue), Gone: true}}, api.EINVAL},
		{"two with one Key", []api.Node{put("a", "1"), put("a", "2")}, api.EINVAL},
		{"two alike", []api.Node{put("a", "1"), put("a", "1")}, api.EINVAL},
		{"put and gone", []api.Node{put("a", "1"), gone("a")}, api.EINVAL},
		{"one Key, others between", []api.Node{put("a", "1"), put("b", ""), gone("c"), gone("a")}, api.EINVAL},
		{"one Key at the end", append(many(14), put("x", ""), put("x", "")), api.EINVAL},
		{"Keys of which one begins the other", []api.Node{put("a", ""), put("ab", ""), put("a\x00", "")}, api.OK},
		{"a bad one at the end", append(many(15), put("", "")), api.EINVAL},
		{"a bad one at the beginning", []api.Node{put("", ""), put("b", "")}, api.EINVAL},
		{"any bytes", []api.Node{put("\x00\xff/\n", "\xff\xff\x00")}, api.OK},
		{"frames of MaxGroupBytes", greatest(), api.OK},
	} {
		is(t, c.name, Right(c.g), c.want)
		is(t, c.name+", by the words", c.want == api.OK, rightly(c.g))
	}
}

// TestGroupBytes: frames of just MaxGroupBytes bytes, and one byte more in each of their nodes.
func TestGroupBytes(t *testing.T) {
	total := 0
	for _, n := range greatest() {
		total += len(frameOf(nodeOf(n, false)))
	}
	is(t, "bytes", total, 1400)
	for i := range greatest() {
		g := greatest()
		if len(g[i].Value) < api.MaxValue {
			g[i].Value += "v"
			is(t, "one byte of a Value more", Right(g), api.EINVAL)
			g[i].Value = g[i].Value[2:]
			is(t, "one byte less", Right(g), api.OK)
		}
		g = greatest()
		if len(g[i].Key) < api.MaxKey {
			g[i].Key += "k"
			is(t, "one byte of a Key more", Right(g), api.EINVAL)
		}
	}
	g := append(greatest(), gone("z"))
	is(t, "a node more", Right(g), api.EINVAL)
	// 16 nodes of 87 or 88 bytes: 1400 = 8 x 87 + 8 x 88
	g = many(16)
	for i := range g {
		g[i].Value = strings.Repeat("v", 77+i%2)
	}
	is(t, "16 nodes of MaxGroupBytes", Right(g), api.OK)
	g[0].Value += "v"
	is(t, "16 nodes of one byte more", Right(g), api.EINVAL)
}

// TestGreatestGroup: it finds room behind a head, in any segment.
func TestGreatestGroup(t *testing.T) {
	full := many(16)
	for i := range full {
		full[i].Value = strings.Repeat("v", 77+i%2)
	}
	for _, g := range []api.Geometry{small, tight, large, {Blocks: 16, Pages: 16, Page: 128}, {Blocks: 16, Pages: 64, Page: 64}} {
		for _, group := range [][]api.Node{greatest(), full} {
			p := paired(formatted(t, g), 1)
			for _, leb := range []int{3, 2, 1} {
				p.add(t, leb)
				is(t, "places", len(p.append(t, group...)), len(group))
			}
			p.m.held(t, fmt.Sprint(g), p.j)
			p.sync(t)
			p.m.heldByAll(t, fmt.Sprint(g), p.j)
		}
	}
}

// TestNil: what a nil journal, a journal of a nil manager, and a nil manager say, whatever they are given.
func TestNil(t *testing.T) {
	var none *ebm.Manager
	if New(none, 1) == nil {
		t.Error("New of a nil manager: none")
	}
	for name, j := range map[string]*Journal{"nil": nil, "of a nil manager": New(nil, 7), "zero": {}} {
		for _, leb := range []int{math.MinInt, -1, 0, 1, math.MaxInt} {
			is(t, name+": Add", j.Add(leb), api.EFAULT)
		}
		for _, g := range [][]api.Node{nil, many(1), many(17)} {
			p, errno := j.Append(g)
			is(t, name+": Append", errno, api.EFAULT)
			is(t, name+": places", len(p), 0)
			is(t, name+": Fits", j.Fits(g), false)
		}
		is(t, name+": Sync", j.Sync(), api.EFAULT)
		is(t, name+": Segments", len(j.Segments()), 0)
	}
	for _, epoch := range []uint64{0, 1, math.MaxUint64} {
		g, l, errno := Replay(none, epoch)
		is(t, "Replay", errno, api.EFAULT)
		is(t, "groups", len(g)+len(l), 0)
	}
	for _, p := range []Place{{}, {-1, -1}, {5, 17}, {math.MaxInt, math.MinInt}} {
		n, errno := Load(none, p)
		is(t, "Load", errno, api.EFAULT)
		is(t, "the node", n, api.Node{})
	}
}

// TestAddRefuses: each leb that can't be a segment, and nothing changes.
func TestAddRefuses(t *testing.T) {
	p := paired(formatted(t, small), 3)
	refuse := func(lebs ...int) {
		t.Helper()
		was := others(t, p.j.m)
		for _, leb := range lebs {
			is(t, fmt.Sprint("Add ", leb), p.j.Add(leb), api.EINVAL)
		}
		is(t, "logical blocks", others(t, p.j.m), was)
		p.m.held(t, "refused", p.j)
	}
	is(t, "Write", p.j.m.Write(0, []byte("master")), api.OK)
	refuse(math.MinInt, -12, -1, 0, 12, 13, 256, 65536, math.MaxInt)
	p.add(t, 11) // the last one
	p.append(t, put("a", "1"))
	refuse(-1, 0, 11, 12)
	p.add(t, 1)
	p.append(t, put("b", "2"))
	refuse(-1, 0, 1, 11, 12)
	p.sync(t)
	refuse(1, 11)
	p.m.heldByAll(t, "at the end", p.j)
}

// TestAddUnmaps: what stood in a logical block is not there any more, whatever it was; others have what they had.
func TestAddUnmaps(t *testing.T) {
	m := formatted(t, small)
	old := paired(m, 3) // of the same epoch
	for leb := 1; leb <= 3; leb++ {
		old.add(t, leb)
		old.append(t, greatest()...)
	}
	old.sync(t)
	laid(t, m, 4, []byte("something"), headOf(4, 1))
	for range m.Pages() {
		is(t, "Write", m.Write(6, []byte(text(64, 1))), api.OK)
	}
	is(t, "Write", m.Write(7, nil), api.OK)
	p := paired(m, 4)
	for _, leb := range []int{2, 4, 6, 7, 5} {
		was := others(t, m, append(p.j.Segments(), leb)...)
		p.add(t, leb)
		is(t, "Used", m.Used(leb), 0)
		is(t, "others", others(t, m, p.j.Segments()...), was)
		p.m.held(t, "Add", p.j)
		p.append(t, one(40, leb)...)
	}
	p.sync(t)
	p.m.heldByAll(t, "Sync", p.j)
	// of the old one the segment 1 is taken away: what stood behind it is not told
	got := replays(t, "the old one", m, 3, 1)
	alike(t, "the old one", got, old.m.groups[:1])
}

// TestAddSyncs: what was appended before stands on the chip then, a head too.
func TestAddSyncs(t *testing.T) {
	m := formatted(t, small)
	p := paired(m, 9)
	p.add(t, 5)
	is(t, "Used", m.Used(5), 0)
	p.add(t, 4) // behind a head alone
	is(t, "Used", m.Used(5), 1)
	is(t, "groups", len(replays(t, "heads", m, 9, 5)), 0)
	p.append(t, put("a", "1"))
	p.append(t, put("b", "2"))
	is(t, "groups that are kept", len(replays(t, "kept", m, 9, 5)), 0)
	p.add(t, 8)
	p.m.heldByAll(t, "Add", p.j)
	is(t, "groups that were synced", len(replays(t, "Add", m, 9, 5, 4)), 2)
	// a refused one syncs nothing
	p.append(t, put("c", "3"))
	is(t, "Add", p.j.Add(8), api.EINVAL)
	is(t, "Used", m.Used(8), 0)
	p.sync(t)
	p.m.heldByAll(t, "Sync", p.j)
}

// TestAllSegments: as many as there are, to the greatest number, in any order.
func TestAllSegments(t *testing.T) {
	for _, g := range []api.Geometry{small, tight, large} {
		m := formatted(t, g)
		p := paired(m, 2)
		var want []int
		for i := range m.Lebs() - 1 {
			leb := 1 + (i*5+3)%(m.Lebs()-1)
			if (m.Lebs()-1)%5 == 0 {
				leb = m.Lebs() - 1 - i
			}
			want = append(want, leb)
			p.add(t, leb)
			p.append(t, put(fmt.Sprint("key", i), "v"), gone("x"))
		}
		p.sync(t)
		lists(t, "Segments", p.j.Segments(), want)
		got := replays(t, fmt.Sprint(g), m, 2, want...)
		alike(t, fmt.Sprint(g), got, p.m.groups)
		is(t, "Add", p.j.Add(1), api.EINVAL)
	}
}

// TestAppendWithoutSegment: there is no room.
func TestAppendWithoutSegment(t *testing.T) {
	m := formatted(t, small)
	p := paired(m, 1)
	ops := m.Chip().Ops()
	p.append(t, put("a", "1"))
	p.append(t, greatest()...)
	is(t, "operations", m.Chip().Ops(), ops)
	p.m.held(t, "no segment", p.j)
}

// room: bytes that the last segment has left.
func room(p pair) int { return (p.m.g.Pages-2)*p.m.g.Page - len(p.m.last().data) }

// leaving: a journal whose last segment has just so many bytes left.
func leaving(t *testing.T, g api.Geometry, left int) pair {
	t.Helper()
	p := paired(formatted(t, g), 1)
	p.add(t, 3)
	for d := room(p) - left; d > 0; d = room(p) - left {
		n := d
		if d > 329 {
			n = min(d-20, 300)
			if (len(p.m.last().data)+n)%g.Page == g.Page-1 { // no filling
				n--
			}
		}
		p.append(t, one(n, d)...)
	}
	is(t, "room", room(p), left)
	return p
}

// TestAppendFull: groups of a byte more than there is room for, which are not appended; behind them some that fit, the last of them just so.
func TestAppendFull(t *testing.T) {
	for _, g := range []api.Geometry{small, tight, {Blocks: 16, Pages: 16, Page: 128, Reserve: 1}} {
		for left := 10; left <= 329; left += 7 {
			if left%g.Page == 1 { // no frame begins on a page's last byte
				left++
			}
			what := fmt.Sprint(g, ", ", left, " left")
			p := leaving(t, g, left)
			if left < 329 {
				is(t, what+": places of a byte more", len(p.append(t, one(left+1, 1)...)), 0)
			}
			if left >= 20 && left <= 275 {
				is(t, what+": places of two nodes of a byte more", len(p.append(t, gone("a"), put("b", text(left-19, 1)))), 0)
			}
			is(t, what+": places of much", len(p.append(t, greatest()...)), 0)
			p.m.held(t, what+", refused", p.j)
			if left >= 40 {
				is(t, what+": places of a short group", len(p.append(t, one(12, 1)...)), 1)
			}
			is(t, what+": places of one that just fits", len(p.append(t, one(room(p), 2)...)), 1)
			is(t, what+": room", room(p), 0)
			is(t, what+": places of the shortest one", len(p.append(t, gone("x"))), 0)
			p.m.held(t, what+", full", p.j)
			p.sync(t)
			p.m.heldByAll(t, what, p.j)
		}
	}
}

// TestTooLittleRoom: fewer bytes than any group has.
func TestTooLittleRoom(t *testing.T) {
	for left := range 10 {
		if left == 1 {
			continue
		}
		p := leaving(t, small, left)
		is(t, "places", len(p.append(t, gone("x"))), 0)
		p.m.held(t, fmt.Sprint(left, " left"), p.j)
	}
}

// TestAppendWholeOrNot: a group of several nodes of which the first ones would fit is not begun; the next segment has room for it.
func TestAppendWholeOrNot(t *testing.T) {
	m := formatted(t, tight)
	p := paired(m, 6)
	p.add(t, 4)
	p.append(t, one(100, 0)...)
	end, ops := p.j.log.End(), m.Chip().Ops()
	is(t, "places", len(p.append(t, greatest()...)), 5)
	is(t, "places", len(p.append(t, greatest()...)), 0)
	if p.j.log.End() <= end || m.Chip().Ops() == ops {
		t.Error("nothing was appended")
	}
	p.m.held(t, "full", p.j)
	p.append(t, gone("small")) // behind a group that did not fit
	p.add(t, 2)
	is(t, "places", len(p.append(t, greatest()...)), 5)
	p.sync(t)
	p.m.heldByAll(t, "at the end", p.j)
	is(t, "groups", len(p.m.groups), 4)
}

// TestAppendRefuses: groups that are not right; nothing is appended.
func TestAppendRefuses(t *testing.T) {
	p := paired(formatted(t, small), 1)
	p.add(t, 3)
	p.append(t, put("a", "1"))
	for _, g := range [][]api.Node{nil, many(17), {put("", "x")}, {long(65, 0)}, {long(1, 257)}, {{Key: "a", Value: "v", Gone: true}}, {put("a", ""), gone("a")}, append(greatest(), gone("z"))} {
		places, errno := p.j.Append(g)
		is(t, "Append", errno, api.EINVAL)
		is(t, "places", len(places), 0)
		is(t, "Fits", p.j.Fits(g), false)
		p.m.held(t, "refused", p.j)
	}
	p.append(t, put("b", "2"))
	p.sync(t)
	p.m.heldByAll(t, "at the end", p.j)
}

// TestFitsChanges: nothing.
func TestFitsChanges(t *testing.T) {
	m := formatted(t, small)
	p := paired(m, 1)
	p.add(t, 3)
	ops := m.Chip().Ops()
	for range 3 {
		is(t, "Fits", p.j.Fits(greatest()), true)
	}
	is(t, "operations", m.Chip().Ops(), ops)
	p.m.held(t, "Fits", p.j)
}

// TestSync: with no segment, with nothing appended, twice, and that it tells what stands on the chip.
func TestSync(t *testing.T) {
	m := formatted(t, small)
	p := paired(m, 1)
	p.sync(t)
	p.m.held(t, "no segment", p.j)
	p.add(t, 3)
	is(t, "segments that are told", len(replays(t, "kept", m, 1)), 0)
	for range 3 {
		ops := m.Chip().Ops()
		p.sync(t)
		p.sync(t)
		is(t, "operations", m.Chip().Ops()-ops <= 2, true)
		p.m.heldByAll(t, "a head", p.j)
	}
	for i := range 5 {
		p.append(t, put(fmt.Sprint(i), "1"))
		is(t, "groups ahead of Sync", len(replays(t, "kept", m, 1, 3)), i)
		p.sync(t)
		is(t, "groups behind Sync", len(replays(t, "Sync", m, 1, 3)), i+1)
		ops := m.Chip().Ops()
		p.sync(t)
		is(t, "operations", m.Chip().Ops(), ops)
		p.m.heldByAll(t, "Sync", p.j)
	}
}

// TestSegmentsAreNew: nobody sees what is written into them.
func TestSegmentsAreNew(t *testing.T) {
	p := paired(formatted(t, small), 1)
	for _, leb := range []int{3, 1, 2} {
		p.add(t, leb)
		l := p.j.Segments()
		clear(l[:cap(l)])
		lists(t, "Segments", p.j.Segments(), p.m.lebs())
		l = append(p.j.Segments(), 77)
		is(t, "the longer list", len(l), len(p.m.segments)+1)
		lists(t, "Segments", p.j.Segments(), p.m.lebs())
	}
	is(t, "Add", p.j.Add(1), api.EINVAL)
	p.append(t, put("a", "1"))
	p.sync(t)
	p.m.heldByAll(t, "at the end", p.j)
}

// TestGroupIsNotKept: what is handed in can be changed behind Append, and is not changed by it; what is handed out is new.
func TestGroupIsNotKept(t *testing.T) {
	p := paired(formatted(t, small), 1)
	p.add(t, 3)
	all := many(8)
	g := all[:3]
	places := p.append(t, g...)
	for i, n := range all {
		is(t, "what was handed in", n, many(8)[i])
	}
	clear(all)
	clear(places[:cap(places)])
	p.append(t, put("z", ""))
	p.sync(t)
	p.m.heldByAll(t, "behind the change", p.j)
	is(t, "Key", replays(t, "Replay", p.j.m, 1, 3)[0].Nodes[1].Key, "\x01")
	Right(g[:2])
	is(t, "what stands behind it", g[2], api.Node{})
}

// errors of Add and Append, in the chapter's order: what is wrong is added one by one, from the last one named on.
func TestOrderOfErrors(t *testing.T) {
	full := func() pair {
		p := paired(formatted(t, small), 1)
		p.add(t, 3)
		for _, g := range filling(30*64 - 17 - 20) {
			p.append(t, g...)
		}
		is(t, "Fits", p.j.Fits(greatest()), false)
		return p
	}
	says := func(what string, j *Journal, g []api.Node, want api.Errno) {
		t.Helper()
		places, errno := j.Append(g)
		is(t, what, errno, want)
		is(t, what+": places", len(places), 0)
	}
	for name, p := range map[string]pair{"no segment": paired(formatted(t, small), 1), "no room": full()} {
		says(name, p.j, greatest(), api.ENOSPC)
		m := p.j.m
		darken(t, m.Chip())
		says(name+", off", p.j, greatest(), api.ENXIO)
		is(t, name+", off: Add", p.j.Add(5), api.ENXIO)
		m.Chip().Power()
		spend(t, m)
		darken(t, m.Chip())
		says(name+", off and spent", p.j, greatest(), api.EROFS)
		is(t, name+", off and spent: Add", p.j.Add(5), api.EROFS)
		says(name+", off and spent, not right", p.j, many(17), api.EINVAL)
		is(t, name+", off and spent: Add", p.j.Add(0), api.EINVAL)
		is(t, name+", off and spent: Add", p.j.Add(12), api.EINVAL)
		if len(p.j.Segments()) > 0 {
			is(t, name+", off and spent: Add", p.j.Add(3), api.EINVAL)
		}
		lists(t, name, p.j.Segments(), p.m.lebs())
	}
}

// TestOff: where the power is off a call says ENXIO, also where it would only keep what is appended; looks go on.
func TestOff(t *testing.T) {
	m := formatted(t, small)
	p := paired(m, 1)
	p.add(t, 3)
	place := p.append(t, put("a", "1"))[0]
	p.sync(t)
	darken(t, m.Chip())
	for _, on := range []bool{false, true} { // also behind Power, until it is attached
		_, errno := p.j.Append([]api.Node{put("b", "")})
		is(t, "Append", errno, api.ENXIO)
		_, errno = p.j.Append(greatest())
		is(t, "Append", errno, api.ENXIO)
		is(t, "Add", p.j.Add(4), api.ENXIO)
		is(t, "Sync of nothing", p.j.Sync(), api.OK)
		lists(t, "Segments", p.j.Segments(), []int{3})
		is(t, "Fits", p.j.Fits(many(1)), true)
		g, l, errno := Replay(m, 1)
		is(t, "Replay", errno, api.ENXIO)
		is(t, "groups", len(g)+len(l), 0)
		n, errno := Load(m, place)
		is(t, "Load", errno, api.ENXIO)
		is(t, "the node", n, api.Node{})
		for _, p := range []Place{{-1, 17}, {12, 17}, {3, -1}, {3, 1920}, {math.MinInt, math.MaxInt}} {
			n, errno = Load(m, p)
			is(t, "Load of no place", errno, api.EINVAL)
			is(t, "the node", n, api.Node{})
		}
		if !on {
			m.Chip().Power()
		}
	}
	p.m.told(t, "attached", attached(t, m.Chip()))
}

// TestOffWithGroupsKept: a Sync that has something to write says ENXIO.
func TestOffWithGroupsKept(t *testing.T) {
	m := formatted(t, small)
	p := paired(m, 1)
	p.add(t, 3)
	p.append(t, put("a", "1"))
	darken(t, m.Chip())
	is(t, "Sync", p.j.Sync(), api.ENXIO)
	is(t, "Add", p.j.Add(4), api.ENXIO)
	lists(t, "Segments", p.j.Segments(), []int{3})
	m.Chip().Power()
	is(t, "groups", len(replays(t, "attached", attached(t, m.Chip()), 1)), 0)
}

// TestSpent: a manager that only reads: calls that change say EROFS, all others go on.
func TestSpent(t *testing.T) {
	for _, kept := range []bool{false, true} {
		m := formatted(t, small)
		p := paired(m, 1)
		p.add(t, 5)
		p.append(t, greatest()...)
		p.append(t, put("a", "1"))
		p.sync(t)
		if kept {
			p.append(t, put("b", "1"))
		}
		spend(t, m)
		ops := m.Chip().Ops()
		_, errno := p.j.Append([]api.Node{put("c", "")})
		is(t, "Append", errno, api.EROFS)
		is(t, "Add", p.j.Add(4), api.EROFS)
		is(t, "Sync", p.j.Sync(), map[bool]api.Errno{true: api.EROFS}[kept])
		is(t, "operations", m.Chip().Ops(), ops)
		p.m.heldByAll(t, "spent", p.j)
		n := New(m, 2)
		is(t, "Add", n.Add(4), api.EROFS)
		_, errno = n.Append(many(1))
		is(t, "Append", errno, api.EROFS)
		is(t, "Sync", n.Sync(), api.OK)
	}
}
