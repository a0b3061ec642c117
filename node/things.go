package node

import (
	"pumice/api"
	"pumice/bits"
)

// Bytes and bounds of the fields in values.
const (
	inoBytes   = 2
	typeBytes  = 1 // of an inode's Kind
	modeBytes  = 2
	ownerBytes = 2
	linksBytes = 2
	sizeBytes  = 4
	maxMode    = 511
	maxOwner   = 65535
)

// Inode: the node of an inode.
func Inode(i api.Inode) (api.Node, api.Errno) {
	if !rightInode(i) {
		return api.Node{}, api.EINVAL
	}
	value := low(i.Kind, typeBytes) + low(i.Mode, modeBytes) +
		low(i.Uid, ownerBytes) + low(i.Gid, ownerBytes) +
		low(i.Links, linksBytes) + low(i.Size, sizeBytes)
	return api.Node{Key: InodeKey(i.Ino), Value: value}, api.OK
}

// ParseInode: the inode that the node was made of.
func ParseInode(n api.Node) (api.Inode, bool) {
	kind, ino, _, _ := Kind(n.Key)
	v := readValue(n.Value)
	i := api.Inode{
		Ino:   ino,
		Kind:  v.field(typeBytes),
		Mode:  v.field(modeBytes),
		Uid:   v.field(ownerBytes),
		Gid:   v.field(ownerBytes),
		Links: v.field(linksBytes),
		Size:  v.field(sizeBytes),
	}
	if n.Gone || kind != ofInode || !v.done() || !rightInode(i) {
		return api.Inode{}, false
	}
	return i, true
}

// Entry: the node of an entry of that directory.
func Entry(dir int, e api.Entry) (api.Node, api.Errno) {
	if !isIno(dir) || !rightEntry(e) {
		return api.Node{}, api.EINVAL
	}
	value := low(e.Ino, inoBytes) + low(e.Kind, typeBytes)
	return api.Node{Key: EntryKey(dir, e.Name), Value: value}, api.OK
}

// ParseEntry: the directory and the entry that the node was made of.
func ParseEntry(n api.Node) (int, api.Entry, bool) {
	kind, dir, name, _ := Kind(n.Key)
	v := readValue(n.Value)
	e := api.Entry{
		Name: name,
		Ino:  v.field(inoBytes),
		Kind: v.field(typeBytes),
	}
	if n.Gone || kind != ofEntry || !v.done() || !rightEntry(e) {
		return 0, api.Entry{}, false
	}
	return dir, e, true
}

// Block: the node of a file's block.
func Block(ino, block int, data []byte) (api.Node, api.Errno) {
	if !isIno(ino) || !isBlock(block) || !within(len(data), 1, api.Unit) {
		return api.Node{}, api.EINVAL
	}
	return api.Node{Key: BlockKey(ino, block), Value: string(data)}, api.OK
}

// Orphan: the node that tells that an inode is an orphan.
func Orphan(ino int) (api.Node, api.Errno) {
	if !isIno(ino) {
		return api.Node{}, api.EINVAL
	}
	return api.Node{Key: OrphanKey(ino)}, api.OK
}

// The bounds are asked where nodes are made and where they are parsed: what no call makes must not be parsed either.

func rightInode(i api.Inode) bool {
	return isIno(i.Ino) && isType(i.Kind) && within(i.Mode, 0, maxMode) &&
		within(i.Uid, 0, maxOwner) && within(i.Gid, 0, maxOwner) &&
		within(i.Links, 0, api.MaxLinks) && within(i.Size, 0, api.MaxFile)
}

func rightEntry(e api.Entry) bool { return isName(e.Name) && isIno(e.Ino) && isType(e.Kind) }

// isType: is it a Kind of inodes?
func isType(kind int) bool {
	switch kind {
	case api.File, api.Dir, api.Link:
		return true
	}
	return false
}

// low: a number that can't be below 0, the lowest byte first.
func low(n, size int) string { return string(bits.Put(uint64(n), size)) }
