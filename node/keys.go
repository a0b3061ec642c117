package node

import (
	"pumice/api"
	"pumice/names"
)

// Kinds of keys, by the byte behind the inode's number.
const (
	ofInode  = 1
	ofEntry  = 2
	ofBlock  = 3
	ofOrphan = 4
)

const (
	highBytes = 2 // bytes of a number in a key
	kindBytes = 1
	noInode   = 0 // what stands in an orphan's key for the number, so that all orphans stand side by side
	root      = 1 // the least inode number
)

// InodeKey: of the inode itself.
func InodeKey(ino int) string { return prefix(ino, ofInode) }

// EntryKey: of one of its entries.
func EntryKey(ino int, name string) string { return prefix(ino, ofEntry) + name }

// BlockKey: of one of its blocks.
func BlockKey(ino, block int) string { return prefix(ino, ofBlock) + high(block) }

// OrphanKey: of the orphan with that number.
func OrphanKey(ino int) string { return prefix(noInode, ofOrphan) + high(ino) }

// From: the first key of a kind of that inode, and the first text behind all of them.
func From(ino, kind int) (string, string) {
	next := byte(kind) + 1 // as a byte: the sum of ints could leave their range
	return prefix(ino, byte(kind)), prefix(ino, next)
}

// prefix: what the keys of a kind of one inode begin with.
func prefix(ino int, kind byte) string { return high(ino) + string([]byte{kind}) }

// high: the lowest 16 bits, the higher byte first, so that keys stand in the order of numbers.
func high(n int) string { return string([]byte{byte(n >> 8), byte(n)}) }

// Kind: a key's kind, its inode's number, its name, its block.
func Kind(key string) (int, int, string, int) {
	k := readKey(key)
	ino, kind := k.high(), k.kind()
	name, block, right := "", 0, true
	switch kind {
	case ofInode:
	case ofEntry:
		name = k.all()
		right = isName(name)
	case ofBlock:
		block = k.high()
		right = isBlock(block)
	case ofOrphan:
		right = ino == noInode
		ino = k.high()
	default:
		right = false
	}
	if !right || !isIno(ino) || !k.done() {
		return 0, 0, "", 0
	}
	return kind, ino, name, block
}

func isIno(ino int) bool { return within(ino, root, api.MaxInodes) }

func isBlock(block int) bool { return within(block, 0, api.MaxFile/api.Unit-1) }

func isName(name string) bool { return names.Right(name) == api.OK }

func within(n, least, most int) bool { return least <= n && n <= most }
