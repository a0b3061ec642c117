package fscore

import (
	"math"

	"pumice/api"
	"pumice/cache"
	"pumice/names"
	"pumice/node"
)

// Kinds of keys, as node tells them.
const (
	ofEntry  = 2
	ofBlock  = 3
	ofOrphan = 4
)

const noInode = 0 // the number in the keys of all orphans' nodes

// view: what a call reads of the map.
type view struct {
	call
	c *cache.Cache
}

// get: the node of a key, and whether it is there.
func (v *view) get(key string) (api.Node, bool) {
	value, ok, errno := v.c.Get(key)
	v.trust(errno)
	return api.Node{Key: key, Value: value}, ok
}

// span: the first most nodes of that kind of an inode.
func (v *view) span(ino, kind, most int) []api.Node {
	from, to := node.From(ino, kind)
	return v.between(from, to, most)
}

func (v *view) between(from, to string, most int) []api.Node {
	l, errno := v.c.Range(from, to, most)
	v.trust(errno)
	return l
}

// clean: is what stands there as node makes it?
func (v *view) clean(so bool) { v.refuse(!so, api.EUCLEAN) }

// inodeAt: the inode with that number, and whether it is there.
func (v *view) inodeAt(ino int) (api.Inode, bool) {
	n, ok := v.get(node.InodeKey(ino))
	if !ok {
		return api.Inode{}, false
	}
	i, ok := node.ParseInode(n)
	v.clean(ok)
	return i, true
}

// inode: one that must be there.
func (v *view) inode(ino int) api.Inode {
	v.refuse(!isNumber(ino), api.ENOENT)
	i, ok := v.inodeAt(ino)
	v.refuse(!ok, api.ENOENT)
	return i
}

// dir: a directory.
func (v *view) dir(ino int) api.Inode {
	i := v.inode(ino)
	v.refuse(i.Kind != api.Dir, api.ENOTDIR)
	return i
}

// home: a directory that can get an entry: one that was removed can't.
func (v *view) home(ino int) api.Inode {
	i := v.dir(ino)
	v.refuse(i.Links == 0, api.ENOENT)
	return i
}

// file: one that is read and written.
func (v *view) file(ino int) api.Inode {
	i := v.inode(ino)
	v.refuse(i.Kind == api.Dir, api.EISDIR)
	v.refuse(i.Kind != api.File, api.EINVAL)
	return i
}

// named: is it a right name?
func (v *view) named(name string) { v.trust(names.Right(name)) }

// entryAt: the entry of a directory with that name, and whether it is there.
func (v *view) entryAt(dir int, name string) (api.Entry, bool) {
	n, ok := v.get(node.EntryKey(dir, name))
	if !ok {
		return api.Entry{}, false
	}
	return v.parseEntry(n), true
}

func (v *view) parseEntry(n api.Node) api.Entry {
	_, e, ok := node.ParseEntry(n)
	v.clean(ok)
	return e
}

// entry: one that must be there.
func (v *view) entry(dir int, name string) api.Entry {
	e, ok := v.entryAt(dir, name)
	v.refuse(!ok, api.ENOENT)
	return e
}

// entries: the first most entries that stand under a number.
func (v *view) entries(ino, most int) []api.Entry {
	var l []api.Entry
	for _, n := range v.span(ino, ofEntry, most) {
		l = append(l, v.parseEntry(n))
	}
	return l
}

// full: has a directory entries?
func (v *view) full(ino int) bool { return len(v.entries(ino, 1)) > 0 }

// lookup: an entry of a directory.
func (v *view) lookup(dir int, name string) api.Entry {
	v.dir(dir)
	v.named(name)
	return v.entry(dir, name)
}

// readdir: all entries of a directory.
func (v *view) readdir(dir int) []api.Entry {
	v.dir(dir)
	return v.entries(dir, math.MaxInt)
}

// below: is dir the number ino, or does ino lead to it by entries?
func (v *view) below(ino, dir int) bool {
	var seen [api.MaxInodes + 1]bool
	seen[ino] = true
	for todo := []int{ino}; len(todo) > 0 && !seen[dir]; todo = todo[1:] {
		for _, e := range v.entries(todo[0], math.MaxInt) {
			if !seen[e.Ino] {
				seen[e.Ino] = true
				todo = append(todo, e.Ino)
			}
		}
	}
	return seen[dir]
}

// free: the least number that neither an inode nor an orphan has. The numbers are asked one by one: far less is read that way than all that stands there.
func (v *view) free() int {
	ino := root
	for ino <= api.MaxInodes && (v.has(node.InodeKey(ino)) || v.has(node.OrphanKey(ino))) {
		ino++
	}
	v.refuse(ino > api.MaxInodes, api.ENOSPC)
	return ino
}

func (v *view) has(key string) bool {
	_, ok := v.get(key)
	return ok
}

// isOrphan: has it an orphan's node?
func (v *view) isOrphan(ino int) bool {
	n, ok := v.get(node.OrphanKey(ino))
	if ok {
		v.parseOrphan(n)
	}
	return ok
}

func (v *view) parseOrphan(n api.Node) int {
	kind, ino, _, _ := node.Kind(n.Key)
	v.clean(kind == ofOrphan && n.Value == "")
	return ino
}

// orphans: the numbers of all that have one, rising.
func (v *view) orphans() []int {
	var l []int
	for _, n := range v.span(noInode, ofOrphan, math.MaxInt) {
		l = append(l, v.parseOrphan(n))
	}
	return l
}

// isNumber: is it an inode number?
func isNumber(ino int) bool { return root <= ino && ino <= api.MaxInodes }
