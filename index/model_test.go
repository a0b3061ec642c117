package index

import (
	"fmt"
	"math/rand"
	"slices"
	"strings"
	"testing"

	"pumice/api"
	"pumice/ebm"
	"pumice/image"
	"pumice/wbuf"
)

// A sorted list of slots is what an index is held against.

// where: a key's number in a list, and whether it is there.
func where(l []image.Slot, key string) (int, bool) {
	return slices.BinarySearchFunc(l, key, func(s image.Slot, key string) int { return strings.Compare(s.Key, key) })
}

func with(l []image.Slot, s image.Slot) []image.Slot {
	l = slices.Clone(l)
	i, ok := where(l, s.Key)
	if ok {
		l[i] = s
		return l
	}
	return slices.Insert(l, i, s)
}

func without(l []image.Slot, key string) []image.Slot {
	l = slices.Clone(l)
	i, ok := where(l, key)
	if !ok {
		return l
	}
	return slices.Delete(l, i, i+1)
}

func between(l []image.Slot, from, to string, most int) []image.Slot {
	var found []image.Slot
	for _, s := range l {
		if s.Key >= from && (to == "" || s.Key < to) && len(found) < most {
			found = append(found, s)
		}
	}
	return found
}

func keysOf(l []image.Slot) []string {
	var keys []string
	for _, s := range l {
		keys = append(keys, s.Key)
	}
	return keys
}

// sound: what is in memory hangs together, as far as it was looked at.
func sound(t *testing.T, what string, x *Index) {
	t.Helper()
	if x.top == nil {
		return
	}
	if !x.top.dirty && x.root == (image.Place{}) {
		t.Errorf("%s: a clean node without a place", what)
	}
	soundBelow(t, what, x.top, "", "")
}

func soundBelow(t *testing.T, what string, n *node, from, to string) {
	t.Helper()
	if !image.Right(n.Image) || len(n.kids) != len(n.Slots) {
		t.Errorf("%s: no right node: %+v", what, n)
	}
	for i, s := range n.Slots {
		end := to
		if i+1 < len(n.Slots) {
			end = n.Slots[i+1].Key
		}
		if s.Key < from || end != "" && s.Key >= end {
			t.Errorf("%s: %q, not from %q on and below %q", what, s.Key, from, end)
		}
		kid := n.kids[i]
		switch {
		case kid == nil:
		case n.Level == 0 || kid.Level != n.Level-1 || kid.dirty && !n.dirty:
			t.Errorf("%s: a node of level %d (dirty: %v) below one of level %d (dirty: %v)", what, kid.Level, kid.dirty, n.Level, n.dirty)
		case len(kid.Slots) < least:
			t.Errorf("%s: a node of %d slots", what, len(kid.Slots))
		default:
			soundBelow(t, what, kid, s.Key, end)
		}
	}
}

// stand: what stands on the chip below a place.
type stand struct {
	slots  []image.Slot
	lebs   []int
	places []image.Place
	bytes  int // of all frames together
	logs   map[int]*wbuf.Log
}

// standing: the index that stands at a root, read frame by frame, as the chapter's words have it.
func standing(t *testing.T, m *ebm.Manager, root image.Place) stand {
	t.Helper()
	s := stand{logs: map[int]*wbuf.Log{}}
	if root != (image.Place{}) {
		s.add(t, m, root, -1, "", "")
	}
	slices.Sort(s.lebs)
	s.lebs = slices.Compact(s.lebs)
	return s
}

func (s *stand) add(t *testing.T, m *ebm.Manager, at image.Place, level int, from, to string) {
	t.Helper()
	if s.logs[at.Leb] == nil {
		l, errno := wbuf.Open(m, at.Leb)
		is(t, "wbuf.Open", errno, api.OK)
		s.logs[at.Leb] = l
	}
	payload, errno := s.logs[at.Leb].Read(at.Pos)
	is(t, "wbuf.Read", errno, api.OK)
	i, ok := image.Unpack(payload)
	if !ok || image.Size(i) != at.Size || level >= 0 && i.Level != level {
		t.Fatalf("at %+v stands %+v, of the level %d, not %d", at, i, i.Level, level)
	}
	s.lebs, s.places, s.bytes = append(s.lebs, at.Leb), append(s.places, at), s.bytes+at.Size
	for n, slot := range i.Slots {
		end := to
		if n+1 < len(i.Slots) {
			end = i.Slots[n+1].Key
		}
		if slot.Key < from || end != "" && slot.Key >= end {
			t.Errorf("at %+v stands %q, not from %q on and below %q", at, slot.Key, from, end)
		}
		if i.Level == 0 {
			s.slots = append(s.slots, slot)
		} else {
			s.add(t, m, slot.At, i.Level-1, slot.Key, end)
		}
	}
}

// player: an index to which things are done by chance, and the list to which the same is done.
type player struct {
	*Index
	r     *rand.Rand
	want  []image.Slot
	saved []image.Slot // as it was committed last
	size  int          // bytes of the longest keys
}

func (p *player) key() string {
	if len(p.want) > 0 && p.r.Intn(3) == 0 {
		return p.want[p.r.Intn(len(p.want))].Key
	}
	b := make([]byte, 1+p.r.Intn(p.size))
	for i := range b {
		b[i] = "ab\x00\xffzcdefghi01"[p.r.Intn(14)]
	}
	return string(b)
}

func (p *player) place() image.Place {
	return image.Place{Leb: p.r.Intn(256), Pos: p.r.Intn(1 << 24), Size: p.r.Intn(1 << 16)}
}

// turn: something is done, and held against the list.
func (p *player) turn(t *testing.T, putting int) {
	t.Helper()
	key := p.key()
	i, there := where(p.want, key)
	switch roll := p.r.Intn(100); {
	case roll < putting:
		s := image.Slot{Key: key, At: p.place()}
		is(t, "Put", p.Put(key, s.At), api.OK)
		p.want = with(p.want, s)
	case roll < 90:
		was, errno := p.Delete(key)
		is(t, "Delete", errno, api.OK)
		is(t, "Delete", was, there)
		p.want = without(p.want, key)
	case roll < 95:
		at, ok, errno := p.Get(key)
		is(t, "Get", errno, api.OK)
		is(t, "Get", ok, there)
		if there {
			is(t, "Get", at, p.want[i].At)
		}
	default:
		from, to, most := p.key(), p.key(), p.r.Intn(20)
		got, errno := p.Range(from, to, most)
		is(t, "Range", errno, api.OK)
		alike(t, "Range", got, between(p.want, from, to, most))
	}
}

// frees: the logical blocks in which nothing of the index stands, neither now nor at the old root, in an order of chance.
func (p *player) frees(t *testing.T) []int {
	t.Helper()
	old := standing(t, p.m, p.Root())
	var l []int
	for _, leb := range p.r.Perm(p.m.Lebs()) {
		if !slices.Contains(old.lebs, leb) {
			l = append(l, leb)
		}
	}
	return l
}

// keep: a Commit, and what must hold behind it.
func (p *player) keep(t *testing.T) {
	t.Helper()
	lebs, dirty := p.frees(t), p.Dirty()
	old := p.Root()
	clean, errno := p.Lebs()
	is(t, "Lebs", errno, api.OK)
	root, n, errno := p.Commit(lebs)
	is(t, "Commit", errno, api.OK)
	is(t, "Commit: was it needed", n > 0, dirty)
	is(t, "Root", p.Root(), root)
	is(t, "Dirty", p.Dirty(), false)
	now := standing(t, p.m, root)
	alike(t, "what stands on the chip", now.slots, p.want)
	lebsAre(t, "Commit", p.Index, now.lebs...)
	if !dirty && len(p.want) > 0 {
		is(t, "Commit of what is clean", root, old)
	}
	for _, leb := range now.lebs {
		if !slices.Contains(clean, leb) && !slices.Contains(lebs[:n], leb) {
			t.Errorf("a node stands in %d, neither one of %v nor of %v", leb, clean, lebs[:n])
		}
	}
	alike(t, "what stands at the old root", standing(t, p.m, old).slots, p.saved)
	p.saved = p.want
	ops := p.m.Chip().Ops()
	again, n, errno := p.Commit(p.frees(t))
	is(t, "Commit again", errno, api.OK)
	is(t, "Commit again", again, root)
	is(t, "Commit again: needed", n, 0)
	is(t, "Commit again: Ops", p.m.Chip().Ops(), ops)
}

// reopen: by another manager of the chip.
func (p *player) reopen(t *testing.T) {
	t.Helper()
	m := attached(t, p.m.Chip())
	p.Index = opened(t, m, p.Root())
	p.want = p.saved
}

// TestChance: several hundred keys, put, deleted, committed, touched, opened anew, held against a sorted list.
func TestChance(t *testing.T) {
	for seed, g := range []api.Geometry{small, tight, large, {Blocks: 64, Pages: 32, Page: 64, Reserve: 16}} {
		for _, size := range []int{3, 12, api.MaxKey} {
			if g == small && size > 3 {
				continue // it has not room for two indexes of long keys
			}
			p := &player{Index: New(formatted(t, g)), r: rand.New(rand.NewSource(int64(seed*100 + size))), size: size}
			most := 0
			for round := range 60 {
				putting := []int{80, 45, 10}[round/5%3]
				for range 60 {
					p.turn(t, putting)
				}
				most = max(most, len(p.want))
				sound(t, "chance", p.Index)
				switch p.r.Intn(6) {
				case 0, 1, 2:
					p.keep(t)
				case 3:
					is(t, "Touch", p.Touch(), api.OK)
					is(t, "Dirty behind Touch", p.Dirty(), len(p.want) > 0)
					lebsAre(t, "Touch", p.Index)
				case 4:
					p.keep(t)
					p.reopen(t)
				case 5:
					p.reopen(t)
				}
			}
			holds(t, "chance", p.Index, p.want)
			is(t, "Wrong", p.m.Chip().Wrong(), 0)
			if most < 100 {
				t.Errorf("%+v, keys of %d: never more than %d keys", g, size, most)
			}
		}
	}
}

// TestHundreds: many keys, put in order, against it, and by chance; taken out likewise.
func TestHundreds(t *testing.T) {
	const n = 700
	keys := numbered(n)
	forth, back := make([]int, n), make([]int, n)
	for i := range n {
		forth[i], back[i] = i, n-1-i
	}
	for name, order := range map[string][]int{"forth": forth, "back": back, "chance": rand.New(rand.NewSource(1)).Perm(n)} {
		x := New(formatted(t, large))
		for _, i := range order {
			is(t, "Put", x.Put(keys[i], value(keys[i])), api.OK)
		}
		holds(t, name, x, slots(keys...))
		sound(t, name, x)
		root := committed(t, x, 100)
		alike(t, name, standing(t, x.m, root).slots, slots(keys...))
		y := opened(t, x.m, root)
		for _, i := range order[:n-10] {
			was, errno := y.Delete(keys[i])
			is(t, "Delete", errno, api.OK)
			is(t, "Delete", was, true)
		}
		want := slots(keys...)
		for _, i := range order[:n-10] {
			want = without(want, keys[i])
		}
		holds(t, name, y, want)
		sound(t, name, y)
		holds(t, name+" committed", opened(t, x.m, committed(t, y, 0)), want)
		holds(t, fmt.Sprint(name, " at the old root"), opened(t, x.m, root), slots(keys...))
	}
}
