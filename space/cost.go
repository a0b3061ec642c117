package space

import (
	"math"

	"pumice/api"
	"pumice/node"
)

const (
	nodeCost = 64      // of a node without a key and a value
	top      = 1 << 62 // where the sums of many nodes stop
)

// Node: what a node costs.
func Node(key, value string) int {
	return sum(math.MaxInt, nodeCost, len(key), len(key), len(value))
}

// Nodes: what the nodes of a list that are not Gone cost together.
func Nodes(l []api.Node) int {
	total := 0
	for _, n := range l {
		if !n.Gone {
			total = sum(top, total, Node(n.Key, n.Value))
		}
	}
	return total
}

// sum: of numbers that are not below 0; most, if it would be more.
func sum(most int, parts ...int) int {
	total := 0
	for _, n := range parts {
		if n > most-total {
			return most
		}
		total += n
	}
	return total
}

// Kinds of nodes.
const (
	anInode = iota
	anEntry
	aBlock
)

// Inode: what an inode's node costs.
func Inode() int { return cost(anInode, 0) }

// Entry: what the node of an entry of that name costs.
func Entry(name string) int { return cost(anEntry, len(name)) }

// File: what all blocks of a file cost, if it has no holes.
func File(size int) int {
	size = min(max(size, 0), api.MaxFile)
	whole, rest := size/api.Unit, size%api.Unit
	total := whole * cost(aBlock, api.Unit)
	if rest > 0 {
		total += cost(aBlock, rest)
	}
	return total
}

// cost: of a node of that kind, which has so many bytes of its own: an entry those of its name, a block those of its data.
func cost(kind, own int) int {
	n := bare(kind)
	total := Node(n.Key, n.Value)
	switch kind {
	case anEntry:
		// Its name stands in the key, so it is counted here and below: a key's bytes cost twice what a value's do.
		total = sum(math.MaxInt, total, own)
		fallthrough
	case aBlock:
		total = sum(math.MaxInt, total, own)
	}
	return total
}

// bare: a node of that kind with nothing of its own.
func bare(kind int) api.Node {
	const ino = 1 // keys and values have as many bytes, whatever their numbers are
	n := api.Node{}
	switch kind {
	case anInode:
		n, _ = node.Inode(api.Inode{Ino: ino, Kind: api.Dir})
	case anEntry:
		n, _ = node.Entry(ino, api.Entry{Name: "a", Ino: ino, Kind: api.Dir})
		n.Key = node.EntryKey(ino, "")
	case aBlock:
		n.Key = node.BlockKey(ino, 0)
	}
	return n
}
