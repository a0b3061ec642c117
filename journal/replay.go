package journal

import (
	"iter"

	"pumice/api"
	"pumice/bits"
	"pumice/ebm"
	"pumice/wbuf"
)

// Replay: the groups of an epoch that stand on the chip whole, in order, and their segments.
func Replay(m *ebm.Manager, epoch uint64) ([]Group, []int, api.Errno) {
	switch {
	case m == nil:
		return nil, nil, api.EFAULT
	case off(m):
		return nil, nil, api.ENXIO
	}
	segments, errno := chain(m, epoch)
	if errno != api.OK {
		return nil, nil, errno
	}
	var told []Group
	for _, leb := range segments {
		log, errno := wbuf.Open(m, leb)
		if errno != api.OK {
			return nil, nil, errno
		}
		r := &reader{leb, log.Frames()[1:]} // behind the head
		for g := range r.groups() {
			told = append(told, g)
		}
		// What stands in later segments was appended behind something that is not there.
		if len(r.frames) > 0 || log.Broken() {
			break
		}
	}
	return told, segments, api.OK
}

// chain: the logical blocks that are the segments 0, 1, 2, .. of an epoch, as far as there are.
func chain(m *ebm.Manager, epoch uint64) ([]int, api.Errno) {
	lebs := map[int]int{} // by the segments' numbers
	for leb := range m.Lebs() {
		page, errno := opening(m, leb)
		if errno != api.OK {
			return nil, errno
		}
		number, ok := headed(page, epoch)
		if _, taken := lebs[number]; ok && !taken {
			lebs[number] = leb
		}
	}
	var l []int
	for leb, ok := lebs[0]; ok; leb, ok = lebs[len(l)] {
		l = append(l, leb)
	}
	return l, api.OK
}

// opening: the page with which the first frame of a logical block's log begins, behind pages that are filling. No more is read of it: what else stands in others' logical blocks is not this epoch's matter.
func opening(m *ebm.Manager, leb int) ([]byte, api.Errno) {
	for i := range m.Used(leb) {
		page, errno := m.Read(leb, i)
		if errno != api.OK || !bits.Blank(page) {
			return page, errno
		}
	}
	return nil, api.OK
}

// reader: takes groups off a segment's frames.
type reader struct {
	leb    int
	frames []wbuf.Frame // that are not taken yet
}

// groups: one by one, as long as they are whole.
func (r *reader) groups() iter.Seq[Group] {
	return func(yield func(Group) bool) {
		for g, ok := r.next(); ok && yield(g); g, ok = r.next() {
		}
	}
}

// next: takes a group, if it is whole.
func (r *reader) next() (Group, bool) {
	var g Group
	for i, f := range r.frames {
		n, last, ok := unpacked(f.Payload)
		if !ok {
			break
		}
		g.Nodes = append(g.Nodes, n)
		g.Places = append(g.Places, Place{r.leb, f.Pos})
		if last {
			r.frames = r.frames[i+1:]
			return g, true
		}
	}
	return Group{}, false
}

// Load: the node that stands at a place.
func Load(m *ebm.Manager, p Place) (api.Node, api.Errno) {
	switch {
	case m == nil:
		return api.Node{}, api.EFAULT
	case p.Pos < 0 || p.Pos >= m.Pages()*m.Page(): // no log has such a place, whether the power is on or not
		return api.Node{}, api.EINVAL
	}
	log, errno := wbuf.Open(m, p.Leb)
	if errno != api.OK {
		return api.Node{}, errno
	}
	payload, _ := log.Read(p.Pos) // of no frame nothing, which is no node's payload
	n, _, ok := unpacked(payload)
	if !ok {
		return api.Node{}, api.EINVAL
	}
	return n, api.OK
}
