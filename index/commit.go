package index

import (
	"slices"
	"sort"

	"pumice/api"
	"pumice/ebm"
	"pumice/image"
	"pumice/wbuf"
)

// Commit: what is not on the chip as it is now is written into these logical blocks: the root, and how many of them were needed.
func (x *Index) Commit(lebs []int) (image.Place, int, api.Errno) {
	if x == nil {
		return image.Place{}, 0, api.EFAULT
	}
	taken, err := x.taken(lebs)
	switch {
	case !x.distinct(lebs) || shared(lebs, taken):
		return image.Place{}, 0, api.EINVAL
	case off(x.m):
		return image.Place{}, 0, api.ENXIO
	case x.m.Spent():
		return image.Place{}, 0, api.EROFS
	case err != nil:
		return image.Place{}, 0, told(err)
	}
	root, used, err := x.commit(lebs)
	if err != nil {
		return image.Place{}, 0, told(err)
	}
	x.root = root
	return root, used, api.OK
}

// distinct: are these logical blocks, none of which stands there twice?
func (x *Index) distinct(lebs []int) bool {
	for i, leb := range lebs {
		if leb < 0 || leb >= x.m.Lebs() || slices.Contains(lebs[:i], leb) {
			return false
		}
	}
	return true
}

// shared: is one of these among those?
func shared(these, those []int) bool {
	return slices.ContainsFunc(these, func(leb int) bool { return slices.Contains(those, leb) })
}

// taken: what must not be written over, if there is anything to write to.
func (x *Index) taken(lebs []int) ([]int, error) {
	if len(lebs) == 0 {
		return nil, nil
	}
	return x.standing(look(x.m))
}

// standing: the logical blocks in which nodes stand that are not dirty, in order, each once.
func (x *Index) standing(l *looker) ([]int, error) {
	if x.top == nil {
		return nil, nil
	}
	lebs, err := x.top.below(l, "")
	if err != nil {
		return nil, err
	}
	if !x.top.dirty {
		lebs = append(lebs, x.root.Leb)
	}
	slices.Sort(lebs)
	return slices.Compact(lebs), nil
}

// below: the logical blocks of all nodes below one, whose keys end ahead of end, that are not dirty. Where a leaf stands its place tells: it is not looked at.
func (n *node) below(l *looker, end string) ([]int, error) {
	if n.Level == 0 {
		return nil, nil
	}
	var lebs []int
	for i, s := range n.Slots {
		if n.kids[i] == nil || !n.kids[i].dirty {
			lebs = append(lebs, s.At.Leb)
		}
		if n.Level == 1 {
			continue
		}
		kid, behind, err := l.kid(n, i, end)
		if err != nil {
			return nil, err
		}
		more, err := kid.below(l, behind)
		if err != nil {
			return nil, err
		}
		lebs = append(lebs, more...)
	}
	return lebs, nil
}

// commit: writes what is dirty: the root, and how many logical blocks were needed.
func (x *Index) commit(lebs []int) (image.Place, int, error) {
	switch {
	case x.top == nil:
		return image.Place{}, 0, nil
	case !x.top.dirty:
		return x.root, 0, nil
	}
	// Room is reckoned first, so that nothing is unmapped in vain: what stands at the old root may stand there.
	if needed(x.top.sizes(), x.m.Page(), x.m.Pages()) > len(lebs) {
		return image.Place{}, 0, failed(image.Place{}, api.ENOSPC)
	}
	w := &writer{m: x.m, lebs: lebs}
	root, err := w.tree(x.top)
	if err == nil {
		err = w.sync()
	}
	if err != nil {
		return image.Place{}, 0, err
	}
	x.top.clean()
	return root, w.used, nil
}

// sizes: how many bytes the payloads of all dirty nodes have, in the order in which they are written.
func (n *node) sizes() []int {
	var l []int
	for _, kid := range n.kids {
		if kid != nil && kid.dirty {
			l = append(l, kid.sizes()...)
		}
	}
	// Each node in memory is a right image, whatever places it has yet.
	payload, _ := image.Pack(n.Image)
	return append(l, len(payload))
}

// needed: how many logs frames with payloads of these sizes take, each filled as far as the next one fits. (No node is greater than the least log, so each takes one at the least.)
func needed(sizes []int, page, pages int) int {
	logs := 0
	for len(sizes) > 0 {
		fit := sort.Search(len(sizes), func(n int) bool { return !wbuf.Fits(sizes[:n+1], 0, page, pages) })
		sizes = sizes[max(fit, 1):]
		logs++
	}
	return logs
}

// clean: all nodes are on the chip as they are now.
func (n *node) clean() {
	for _, kid := range n.kids {
		if kid != nil && kid.dirty {
			kid.clean()
		}
	}
	n.dirty = false
}

// writer: appends nodes to logical blocks, one behind the other.
type writer struct {
	m    *ebm.Manager
	lebs []int
	used int       // how many of them were begun
	log  *wbuf.Log // of the last of these; nil: there is none yet
}

// tree: writes a dirty node, behind those below it that are dirty: its place.
func (w *writer) tree(n *node) (image.Place, error) {
	for i, kid := range n.kids {
		if kid == nil || !kid.dirty {
			continue
		}
		at, err := w.tree(kid)
		if err != nil {
			return image.Place{}, err
		}
		n.Slots[i].At = at
	}
	return w.write(n.Image)
}

// write: a node's frame, in the next logical block, if it does not fit into this one.
func (w *writer) write(i image.Image) (image.Place, error) {
	payload, _ := image.Pack(i)
	if w.log == nil || len(payload) > w.log.Room() {
		if err := w.next(); err != nil {
			return image.Place{}, err
		}
	}
	at := image.Place{Leb: w.lebs[w.used-1], Pos: w.log.End(), Size: image.Size(i)}
	_, errno := w.log.Append(payload)
	return at, failed(at, errno)
}

// next: begins the next logical block, behind a sync of the one ahead.
func (w *writer) next() error {
	if err := w.sync(); err != nil {
		return err
	}
	if w.used == len(w.lebs) {
		return failed(image.Place{}, api.ENOSPC)
	}
	leb := w.lebs[w.used]
	errno := w.m.Unmap(leb)
	if errno == api.OK {
		w.log, errno = wbuf.Open(w.m, leb)
	}
	w.used++
	return failed(image.Place{Leb: leb}, errno)
}

// sync: what the log keeps stands on the chip.
func (w *writer) sync() error {
	if w.log == nil {
		return nil
	}
	return failed(image.Place{Leb: w.lebs[w.used-1]}, w.log.Sync())
}
