package fscore

import (
	"pumice/api"
	"pumice/node"
)

// How many blocks a group takes out.
const (
	alone        = 14
	besideOrphan = 13 // with an orphan's node
	besideInode  = 12 // with an inode's, too
)

// purge: what is to be taken out of an orphan goes.
func (w *work) purge(ino int) {
	w.refuse(!isNumber(ino), api.EINVAL)
	if !w.isOrphan(ino) {
		return
	}
	i, ok := w.inodeAt(ino)
	switch {
	case !ok:
	case i.Links == 0:
		w.out(w.takeOut(w.blocks(ino, 0), besideInode)...)
		w.out(node.InodeKey(ino))
	default:
		w.out(w.takeOut(w.blocks(ino, behind(i.Size)), besideOrphan)...)
	}
	w.out(node.OrphanKey(ino))
	w.put()
}

// takeOut: blocks, group by group, till no more than last are left: these.
func (w *work) takeOut(keys []string, last int) []string {
	for len(keys) > last {
		n := min(alone, len(keys))
		w.out(keys[:n]...)
		w.put()
		keys = keys[n:]
	}
	return keys
}

// purgeAll: of all orphans, in order.
func (w *work) purgeAll() {
	for _, ino := range w.orphans() {
		w.purge(ino)
	}
}
