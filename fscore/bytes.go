package fscore

import (
	"math"

	"pumice/api"
	"pumice/node"
)

// block: the bytes of a block; none, if it is not there.
func (v *view) block(ino, n int) string {
	b, ok := v.get(node.BlockKey(ino, n))
	if ok {
		v.parseBlock(b)
	}
	return b.Value
}

// parseBlock: the number of the block that a node has.
func (v *view) parseBlock(b api.Node) int {
	kind, ino, _, n := node.Kind(b.Key)
	_, errno := node.Block(ino, n, []byte(b.Value))
	v.clean(kind == ofBlock && errno == api.OK)
	return n
}

// blocks: the keys of an inode's blocks from that number on, rising.
func (v *view) blocks(ino, first int) []string {
	_, to := node.From(ino, ofBlock)
	var keys []string
	for _, b := range v.between(node.BlockKey(ino, first), to, math.MaxInt) {
		v.parseBlock(b)
		keys = append(keys, b.Key)
	}
	return keys
}

// behind: the first block that begins at that Size, or behind it.
func behind(size int) int { return (size + api.Unit - 1) / api.Unit }

// read: the bytes of a file from at on.
func (v *view) read(ino, at, n int) []byte {
	i := v.file(ino)
	v.refuse(at < 0 || n < 0, api.EINVAL)
	if at >= i.Size {
		return nil
	}
	return v.bytes(ino, at, min(n, i.Size-at))
}

// bytes: n bytes from at on; 0 where nothing was written.
func (v *view) bytes(ino, at, n int) []byte {
	b := make([]byte, n)
	for done := 0; done < n; {
		number, from := (at+done)/api.Unit, (at+done)%api.Unit
		piece := b[done:min(done+api.Unit-from, n)]
		value := v.block(ino, number)
		copy(piece, value[min(from, len(value)):])
		done += len(piece)
	}
	return b
}

// readlink: all bytes of a symlink.
func (v *view) readlink(ino int) string {
	i := v.inode(ino)
	v.refuse(i.Kind != api.Link, api.EINVAL)
	return string(v.bytes(ino, 0, i.Size))
}

// write: the blocks, and the inode, if it grows.
func (w *work) write(ino, at int, data []byte) int {
	i := w.file(ino)
	w.refuse(at < 0 || len(data) > api.MaxWrite, api.EINVAL)
	w.refuse(at > api.MaxFile-len(data), api.EFBIG)
	for done := 0; done < len(data); {
		number, from := (at+done)/api.Unit, (at+done)%api.Unit
		piece := data[done:min(done+api.Unit-from, len(data))]
		w.add(node.Block(ino, number, written(w.block(ino, number), from, piece)))
		done += len(piece)
	}
	if len(data) > 0 && at+len(data) > i.Size {
		i.Size = at + len(data)
		w.add(node.Inode(i))
	}
	w.put()
	return len(data)
}

// written: a block's bytes behind that: 0 up to where it begins, and what stood behind it.
func written(value string, from int, piece []byte) []byte {
	b := make([]byte, max(len(value), from+len(piece)))
	copy(b, value)
	copy(b[from:], piece)
	return b
}

// truncate: another Size.
func (w *work) truncate(ino, size int) {
	i := w.file(ino)
	w.refuse(size < 0, api.EINVAL)
	w.refuse(size > api.MaxFile, api.EFBIG)
	if size == i.Size {
		return
	}
	was := i.Size
	i.Size = size
	w.add(node.Inode(i))
	if size < was {
		w.shorten(i)
	}
	w.put()
}

// shorten: what lies behind the Size goes. Where that is more than a group has room for, an orphan's node tells of it till all has gone.
func (w *work) shorten(i api.Inode) {
	w.cut(i)
	keys := w.blocks(i.Ino, behind(i.Size))
	if len(keys) <= besideOrphan {
		w.out(keys...)
		return
	}
	w.out(keys[:besideOrphan]...)
	w.add(node.Orphan(i.Ino))
	w.put()
	w.out(w.takeOut(keys[besideOrphan:], besideOrphan)...)
	if i.Links > 0 { // else the inode itself is yet to be taken out
		w.out(node.OrphanKey(i.Ino))
	}
}

// cut: the block in which the Size lies has no bytes behind that.
func (w *work) cut(i api.Inode) {
	number, most := i.Size/api.Unit, i.Size%api.Unit
	if most == 0 {
		return // it begins there: it goes as a whole
	}
	if value := w.block(i.Ino, number); len(value) > most {
		w.add(node.Block(i.Ino, number, []byte(value[:most])))
	}
}
