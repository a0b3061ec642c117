package journal

import (
	"bytes"
	"encoding/binary"
	"fmt"
	"hash/crc32"
	"math/rand"
	"slices"
	"testing"

	"pumice/api"
	"pumice/ebm"
	"pumice/nand"
	"pumice/scan"
	"pumice/wbuf"
)

// small: 12 logical blocks of 30 pages of 64 bytes.
var small = api.Geometry{Blocks: 16, Pages: 32, Page: 64, Reserve: 2}

// tight: logical blocks of the fewest bytes that there may be, 1536.
var tight = api.Geometry{Blocks: 16, Pages: 8, Page: 256, Reserve: 2}

// large: logical blocks of the most bytes that there may be.
var large = api.Geometry{Blocks: 256, Pages: 64, Page: 512, Reserve: 64}

func is[T comparable](t *testing.T, what string, got, want T) {
	t.Helper()
	if got != want {
		t.Errorf("%s: %s, not %s", what, shown(got), shown(want))
	}
}

// shown: a text may be any bytes.
func shown(x any) string {
	switch v := x.(type) {
	case string:
		return fmt.Sprintf("%q", v)
	case api.Node:
		return fmt.Sprintf("{%q %q %t}", v.Key, v.Value, v.Gone)
	case []api.Node:
		all := ""
		for _, n := range v {
			all += shown(n)
		}
		return all
	case []Group:
		all := ""
		for _, g := range v {
			all += fmt.Sprintf("\n\t%s at %v", shown(g.Nodes), g.Places)
		}
		return all
	}
	return fmt.Sprintf("%+v", x)
}

// lists: two lists with the same elements; none may be nil or empty.
func lists[T comparable](t *testing.T, what string, got, want []T) {
	t.Helper()
	if !slices.Equal(got, want) {
		t.Errorf("%s: %+v, not %+v", what, got, want)
	}
}

// alike: groups with the same nodes at the same places.
func alike(t *testing.T, what string, got, want []Group) {
	t.Helper()
	same := slices.EqualFunc(got, want, func(a, b Group) bool {
		return slices.Equal(a.Nodes, b.Nodes) && slices.Equal(a.Places, b.Places)
	})
	if !same {
		t.Errorf("%s: %d groups:%s\nnot %d:%s", what, len(got), shown(got), len(want), shown(want))
	}
}

func formatted(t *testing.T, g api.Geometry) *ebm.Manager {
	t.Helper()
	c, errno := nand.New(g, nil)
	is(t, "nand.New", errno, api.OK)
	m, errno := ebm.Format(c)
	if errno != api.OK {
		t.Fatalf("Format: %d", errno)
	}
	return m
}

func attached(t *testing.T, c *nand.Chip) *ebm.Manager {
	t.Helper()
	m, errno := ebm.Attach(c)
	if errno != api.OK {
		t.Fatalf("Attach: %d", errno)
	}
	return m
}

func arm(t *testing.T, c *nand.Chip, plan ...api.Fault) {
	t.Helper()
	is(t, "Arm", c.Arm(plan), api.OK)
}

// darken: the power goes off; nothing else changes.
func darken(t *testing.T, c *nand.Chip) {
	t.Helper()
	arm(t, c, api.Fault{At: 1, Kind: api.Cut})
	for n := range c.Geometry().Blocks {
		if !c.Bad(n) {
			is(t, "Erase", c.Erase(n), api.ENXIO)
			return
		}
	}
	t.Fatal("no block is left")
}

// spend: so many blocks go bad that the manager only reads. Those that are mapped stay.
func spend(t *testing.T, m *ebm.Manager) {
	t.Helper()
	l, errno := scan.Scan(m.Chip())
	is(t, "Scan", errno, api.OK)
	for n, b := range l {
		if b.State == scan.Free && !m.Spent() {
			is(t, "Mark", m.Chip().Mark(n), api.OK)
		}
	}
	is(t, "Spent", m.Spent(), true)
}

// spoil: no page of a logical block can be read any more.
func spoil(t *testing.T, m *ebm.Manager, leb int) {
	t.Helper()
	l, errno := scan.Scan(m.Chip())
	is(t, "Scan", errno, api.OK)
	arm(t, m.Chip(), api.Fault{At: 1, Kind: api.Fail})
	is(t, "Erase", m.Chip().Erase(scan.Find(l, leb)), api.EIO)
}

// text: n bytes that look like chance, the same ones for the same n and seed.
func text(n, seed int) string {
	b := make([]byte, n)
	x := uint64(seed)*1000 + uint64(n) + 1
	for i := range b {
		x = x*6364136223846793005 + 1442695040888963407
		b[i] = byte(x >> 56)
	}
	return string(b)
}

// put, gone: a node.
func put(key, value string) api.Node { return api.Node{Key: key, Value: value} }
func gone(key string) api.Node       { return api.Node{Key: key, Gone: true} }

// one: a group of one node, whose frame has so many bytes: 10 to 329.
func one(bytes, seed int) []api.Node {
	key := min(bytes-9, 1+seed%api.MaxKey)
	key = max(key, bytes-9-api.MaxValue)
	return []api.Node{put(text(key, seed), text(bytes-9-key, seed+1))}
}

// filling: groups whose frames have so many bytes together, each as much as one node's may.
func filling(total int) [][]api.Node {
	var l [][]api.Node
	for i := 0; total > 0; i++ {
		n := min(total, 329)
		if total > 329 && total < 339 {
			n = total - 10
		}
		l = append(l, one(n, i))
		total -= n
	}
	return l
}

// greatest: a group whose frames have MaxGroupBytes bytes together.
func greatest() []api.Node {
	var g []api.Node
	for i, l := range filling(api.MaxGroupBytes) {
		n := l[0]
		n.Key = string(rune('a'+i)) + n.Key[1:] // no two alike
		g = append(g, n)
	}
	return g
}

// anyGroup: a right one, by chance.
func anyGroup(r *rand.Rand) []api.Node {
	for {
		var g []api.Node
		for range 1 + r.Intn(1+r.Intn(api.MaxGroup)) {
			n := api.Node{Key: text(1+r.Intn(1+r.Intn(api.MaxKey)), r.Int()), Gone: r.Intn(4) == 0}
			if !n.Gone {
				n.Value = text(r.Intn(1+r.Intn(api.MaxValue+1)), r.Int())
			}
			g = append(g, n)
		}
		if rightly(g) {
			return g
		}
	}
}

// rightly: the chapter's words on a group, once more.
func rightly(g []api.Node) bool {
	keys, total := map[string]int{}, 0
	for _, n := range g {
		keys[n.Key]++
		total += len(frameOf(nodeOf(n, false)))
		if len(n.Key) < 1 || len(n.Key) > 64 || len(n.Value) > 256 || n.Gone && n.Value != "" {
			return false
		}
	}
	return len(g) >= 1 && len(g) <= 16 && len(keys) == len(g) && total <= 1400
}

// frameOf: a frame, made without package bits.
func frameOf(payload []byte) []byte {
	b := binary.LittleEndian.AppendUint16(nil, uint16(len(payload)))
	b = binary.LittleEndian.AppendUint32(b, crc32.ChecksumIEEE(payload))
	return append(b, payload...)
}

// headOf: a head's payload, as the chapter's words have it.
func headOf(epoch uint64, number int) []byte {
	b := binary.LittleEndian.AppendUint64([]byte{'H'}, epoch)
	return binary.LittleEndian.AppendUint16(b, uint16(number))
}

// nodeOf: a node's payload, likewise.
func nodeOf(n api.Node, last bool) []byte {
	flags := map[[2]bool]byte{{true, false}: 1, {false, true}: 2, {true, true}: 3}[[2]bool{n.Gone, last}]
	return []byte("N" + string([]byte{flags, byte(len(n.Key))}) + n.Key + n.Value)
}

// groupOf: the payloads of a group's nodes.
func groupOf(g ...api.Node) [][]byte {
	var l [][]byte
	for i, n := range g {
		l = append(l, nodeOf(n, i == len(g)-1))
	}
	return l
}

// laid: a logical block has these frames, one behind the other; their places.
func laid(t *testing.T, m *ebm.Manager, leb int, payloads ...[]byte) []Place {
	t.Helper()
	is(t, "Unmap", m.Unmap(leb), api.OK)
	l, errno := wbuf.Open(m, leb)
	is(t, "Open", errno, api.OK)
	var places []Place
	for _, p := range payloads {
		pos, errno := l.Append(p)
		is(t, "Append to the log", errno, api.OK)
		places = append(places, Place{leb, pos})
	}
	is(t, "Sync of the log", l.Sync(), api.OK)
	return places
}

// onChip: all bytes that a logical block has.
func onChip(t *testing.T, m *ebm.Manager, leb int) []byte {
	t.Helper()
	var b []byte
	for i := range m.Used(leb) {
		page, errno := m.Read(leb, i)
		if errno != api.OK {
			t.Fatalf("Read(%d, %d): %d", leb, i, errno)
		}
		b = append(b, page...)
	}
	return b
}

// others: what all logical blocks but these have.
func others(t *testing.T, m *ebm.Manager, but ...int) string {
	t.Helper()
	all := ""
	for leb := range m.Lebs() {
		if !slices.Contains(but, leb) {
			all += fmt.Sprintf("%d %d %q\n", leb, m.Used(leb), onChip(t, m, leb))
		}
	}
	return all
}

// segment: what a model knows of one.
type segment struct {
	leb  int
	data []byte // its log, with what is kept
}

// model: a journal as the chapter's words have it.
type model struct {
	g        api.Geometry
	epoch    uint64
	segments []segment
	groups   []Group // all that were appended
	synced   int     // how many of them a Sync or an Add that was OK had ahead
}

func (m *model) last() *segment { return &m.segments[len(m.segments)-1] }

// laidOut: a log's bytes with frames of these payloads behind them, and where they begin; ok: a log has so much room.
func (m *model) laidOut(data []byte, payloads ...[]byte) ([]byte, []int, bool) {
	var at []int
	data = bytes.Clone(data)
	for _, p := range payloads {
		at = append(at, len(data))
		data = append(data, frameOf(p)...)
		if len(data) > (m.g.Pages-2)*m.g.Page {
			return nil, nil, false
		}
		if len(data)%m.g.Page == m.g.Page-1 {
			data = append(data, 0xff)
		}
	}
	return data, at, true
}

func (m *model) add(leb int) {
	m.sync()
	data, _, _ := m.laidOut(nil, headOf(m.epoch, len(m.segments)))
	m.segments = append(m.segments, segment{leb, data})
}

// append: ok: there was room.
func (m *model) append(g []api.Node) ([]Place, bool) {
	if len(m.segments) == 0 {
		return nil, false
	}
	s := m.last()
	data, at, ok := m.laidOut(s.data, groupOf(g...)...)
	if !ok {
		return nil, false
	}
	s.data = data
	var places []Place
	for _, pos := range at {
		places = append(places, Place{s.leb, pos})
	}
	m.groups = append(m.groups, Group{slices.Clone(g), places})
	return places, true
}

func (m *model) sync() {
	if len(m.segments) > 0 {
		s := m.last()
		for len(s.data)%m.g.Page != 0 {
			s.data = append(s.data, 0xff)
		}
	}
	m.synced = len(m.groups)
}

func (m *model) clone() *model {
	n := *m
	n.segments, n.groups = slices.Clone(m.segments), slices.Clone(m.groups)
	for i := range n.segments {
		n.segments[i].data = bytes.Clone(n.segments[i].data)
	}
	return &n
}

func (m *model) lebs() []int {
	var l []int
	for _, s := range m.segments {
		l = append(l, s.leb)
	}
	return l
}

// written: the bytes of a segment's log that stand on the chip: full pages do.
func (m *model) written(s segment) []byte { return s.data[:len(s.data)/m.g.Page*m.g.Page] }

// replayed: what Replay must tell of a journal that was not cut: the groups that stand on the chip whole, and the segments whose heads do.
func (m *model) replayed() ([]Group, []int) {
	var groups []Group
	for _, g := range m.groups {
		p := g.Places[len(g.Places)-1]
		for _, s := range m.segments {
			end := p.Pos + len(frameOf(nodeOf(g.Nodes[len(g.Nodes)-1], true)))
			if s.leb == p.Leb && end <= len(m.written(s)) {
				groups = append(groups, g)
			}
		}
	}
	var lebs []int
	for _, s := range m.segments {
		if len(m.written(s)) > 0 {
			lebs = append(lebs, s.leb)
		}
	}
	return groups, lebs
}

// held: a journal against the model: its segments, what it says of room, what stands on the chip byte by byte, what is told of that.
func (m *model) held(t *testing.T, what string, j *Journal) {
	t.Helper()
	lists(t, what+": Segments", j.Segments(), m.lebs())
	for _, s := range m.segments {
		is(t, fmt.Sprint(what, ": on the chip, leb ", s.leb), string(onChip(t, j.m, s.leb)), string(m.written(s)))
	}
	for size := 10; size < 330; size += 29 {
		g := one(size, size)
		_, fits := m.clone().append(g)
		is(t, fmt.Sprint(what, ": Fits of ", size, " bytes"), j.Fits(g), fits)
	}
	m.told(t, what, j.m)
	is(t, what+": Wrong", j.m.Chip().Wrong(), 0)
}

// told: what a manager tells of a journal that was not cut, and that it loads the newest of it.
func (m *model) told(t *testing.T, what string, from *ebm.Manager) []Group {
	t.Helper()
	groups, lebs := m.replayed()
	got := replays(t, what, from, m.epoch, lebs...)
	alike(t, what+": Replay", got, groups)
	loads(t, what, from, got[max(len(got)-3, 0):])
	return got
}

// heldByAll: likewise, and by a manager that is attached anew, which loads all.
func (m *model) heldByAll(t *testing.T, what string, j *Journal) {
	t.Helper()
	m.held(t, what, j)
	from := attached(t, j.m.Chip())
	loads(t, what+", attached", from, m.told(t, what+", attached", from))
}

// replays: the groups that Replay tells, of just these segments.
func replays(t *testing.T, what string, m *ebm.Manager, epoch uint64, lebs ...int) []Group {
	t.Helper()
	got, segments, errno := Replay(m, epoch)
	is(t, what+": Replay", errno, api.OK)
	lists(t, what+": the segments that are told", segments, lebs)
	return got
}

// loads: each node of the groups stands where it is told.
func loads(t *testing.T, what string, m *ebm.Manager, groups []Group) {
	t.Helper()
	for _, g := range groups {
		is(t, what+": places", len(g.Places), len(g.Nodes))
		for i, n := range g.Nodes {
			got, errno := Load(m, g.Places[i])
			is(t, what+": Load", errno, api.OK)
			is(t, what+": Load", got, n)
		}
	}
}

// pair: a journal and its model, which are given the same calls.
type pair struct {
	j *Journal
	m *model
}

func paired(m *ebm.Manager, epoch uint64) pair {
	return pair{New(m, epoch), &model{g: m.Chip().Geometry(), epoch: epoch}}
}

func (p pair) add(t *testing.T, leb int) {
	t.Helper()
	is(t, fmt.Sprint("Add ", leb), p.j.Add(leb), api.OK)
	p.m.add(leb)
}

// append: with Fits ahead of it.
func (p pair) append(t *testing.T, g ...api.Node) []Place {
	t.Helper()
	want, ok := p.m.append(g)
	is(t, "Fits", p.j.Fits(g), ok)
	got, errno := p.j.Append(g)
	if ok {
		is(t, "Append", errno, api.OK)
	} else {
		is(t, "Append", errno, api.ENOSPC)
	}
	lists(t, "places", got, want)
	return got
}

func (p pair) sync(t *testing.T) {
	t.Helper()
	is(t, "Sync", p.j.Sync(), api.OK)
	p.m.sync()
}
