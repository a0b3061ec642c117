package fscore

import (
	"slices"

	"pumice/api"
	"pumice/node"
)

// rootMode: who may what in a new root.
const rootMode = 0755

// dirLinks: of a directory without directories in it: its name, and what it is to itself.
const dirLinks = 2

// makeRoot: there must be none.
func (w *work) makeRoot() {
	_, ok := w.inodeAt(root)
	w.refuse(ok, api.EEXIST)
	w.add(node.Inode(api.Inode{Ino: root, Kind: api.Dir, Mode: rootMode, Links: dirLinks}))
	w.put()
}

// create: a new inode and its entry.
func (w *work) create(dir int, name string, i api.Inode, text string) int {
	home := w.home(dir)
	w.named(name)
	_, ok := w.entryAt(dir, name)
	w.refuse(ok, api.EEXIST)
	w.refuse(!isRight(i), api.EINVAL)
	w.says(i.Kind, text)
	w.refuse(i.Kind == api.Dir && home.Links >= api.MaxLinks, api.EMLINK)
	ino := w.free()
	w.add(node.Inode(fresh(ino, i, text)))
	w.add(node.Entry(dir, api.Entry{Name: name, Ino: ino, Kind: i.Kind}))
	w.lay(ino, text)
	if i.Kind == api.Dir {
		w.linked(home, 1)
	}
	w.put()
	return ino
}

// isRight: can its Kind, Mode, Uid and Gid be?
func isRight(i api.Inode) bool {
	_, errno := node.Inode(api.Inode{Ino: root, Kind: i.Kind, Mode: i.Mode, Uid: i.Uid, Gid: i.Gid})
	return errno == api.OK
}

// says: may a new inode of that Kind say this?
func (w *work) says(kind int, text string) {
	if kind != api.Link {
		w.refuse(text != "", api.EINVAL)
		return
	}
	w.refuse(text == "", api.ENOENT)
	w.refuse(len(text) > api.MaxPath, api.ENAMETOOLONG)
}

// fresh: the inode as it is at first.
func fresh(ino int, i api.Inode, text string) api.Inode {
	links := 1
	if i.Kind == api.Dir {
		links = dirLinks
	}
	return api.Inode{Ino: ino, Kind: i.Kind, Mode: i.Mode, Uid: i.Uid, Gid: i.Gid, Links: links, Size: len(text)}
}

// lay: a text as the blocks of a new inode.
func (w *work) lay(ino int, text string) {
	n := 0
	for piece := range slices.Chunk([]byte(text), api.Unit) {
		w.add(node.Block(ino, n, piece))
		n++
	}
}

// linked: an inode has so many Links more.
func (w *work) linked(i api.Inode, more int) {
	if more != 0 {
		i.Links += more
		w.add(node.Inode(i))
	}
}

// link: one more entry of an inode.
func (w *work) link(ino, dir int, name string) {
	i := w.inode(ino)
	w.refuse(i.Kind == api.Dir, api.EPERM)
	w.refuse(i.Links == 0, api.ENOENT)
	w.home(dir)
	w.named(name)
	_, ok := w.entryAt(dir, name)
	w.refuse(ok, api.EEXIST)
	w.refuse(i.Links >= api.MaxLinks, api.EMLINK)
	w.add(node.Entry(dir, api.Entry{Name: name, Ino: ino, Kind: i.Kind}))
	w.linked(i, 1)
	w.put()
}

// unlink: an entry that is no Dir's is taken out.
func (w *work) unlink(dir int, name string) Gone {
	e := w.lookup(dir, name)
	w.refuse(e.Kind == api.Dir, api.EISDIR)
	w.out(node.EntryKey(dir, name))
	gone := w.drop(e)
	w.put()
	return gone
}

// rmdir: an entry of an empty Dir is taken out.
func (w *work) rmdir(dir int, name string) Gone {
	home := w.dir(dir)
	w.named(name)
	e := w.entry(dir, name)
	w.refuse(e.Kind != api.Dir, api.ENOTDIR)
	w.refuse(w.full(e.Ino), api.ENOTEMPTY)
	w.out(node.EntryKey(dir, name))
	gone := w.drop(e)
	w.linked(home, -1)
	w.put()
	return gone
}

// drop: what an entry names loses that name. Without one it is an orphan.
func (w *work) drop(e api.Entry) Gone {
	i := w.inode(e.Ino)
	i.Links--
	if e.Kind == api.Dir {
		i.Links = 0
	}
	w.add(node.Inode(i))
	if i.Links == 0 {
		w.add(node.Orphan(i.Ino))
	}
	return Gone{Ino: i.Ino, Last: i.Links == 0}
}

// move: what a Rename has to do with.
type move struct {
	from, to api.Inode // the directories
	e        api.Entry // what is renamed
	was      api.Entry // what has the other name
	there    bool      // has anything?
}

// away: does a Dir go to another directory?
func (m *move) away() bool { return m.e.Kind == api.Dir && m.from.Ino != m.to.Ino }

// over: is a Dir there as the other name?
func (m *move) over() bool { return m.there && m.was.Kind == api.Dir }

// rename: the entry other names what the entry name did.
func (w *work) rename(dir int, name string, to int, other string) Gone {
	m := w.moved(dir, name, to, other)
	if m.there && m.was.Ino == m.e.Ino {
		return Gone{}
	}
	w.mayMove(m)
	w.out(node.EntryKey(dir, name))
	w.add(node.Entry(to, api.Entry{Name: other, Ino: m.e.Ino, Kind: m.e.Kind}))
	var gone Gone
	if m.there {
		gone = w.drop(m.was)
	}
	w.relink(m)
	w.put()
	return gone
}

// moved: what the names of a Rename stand for.
func (w *work) moved(dir int, name string, to int, other string) *move {
	var m move
	m.from = w.dir(dir)
	w.named(name)
	m.to = w.home(to)
	w.named(other)
	m.e = w.entry(dir, name)
	m.was, m.there = w.entryAt(to, other)
	return &m
}

// mayMove: may what is renamed go there?
func (w *work) mayMove(m *move) {
	isDir := m.e.Kind == api.Dir
	w.refuse(isDir && w.below(m.e.Ino, m.to.Ino), api.EINVAL)
	w.refuse(isDir && m.there && !m.over(), api.ENOTDIR)
	w.refuse(!isDir && m.over(), api.EISDIR)
	w.refuse(m.over() && w.full(m.was.Ino), api.ENOTEMPTY)
	w.refuse(m.away() && !m.over() && m.to.Links >= api.MaxLinks, api.EMLINK)
}

// relink: the directories have a Link for each Dir in them.
func (w *work) relink(m *move) {
	more := 0
	if m.away() {
		w.linked(m.from, -1)
		more++
	}
	if m.over() {
		more--
	}
	w.linked(m.to, more)
}

// set: an inode's Mode, Uid and Gid.
func (w *work) set(i api.Inode) {
	w.refuse(!isRight(api.Inode{Kind: api.File, Mode: i.Mode, Uid: i.Uid, Gid: i.Gid}), api.EINVAL)
	was := w.inode(i.Ino)
	now := was
	now.Mode, now.Uid, now.Gid = i.Mode, i.Uid, i.Gid
	if now != was {
		w.add(node.Inode(now))
		w.put()
	}
}
