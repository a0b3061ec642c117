package audit

import (
	"cmp"
	"strings"

	"pumice/api"
	"pumice/node"
)

// What may be wrong.
const (
	wrongNode = iota + 1
	strayEntry
	noInode
	wrongKind
	strayBlock
	beyondSize
	wrongLinks
	lostInode
	ring
	strayOrphan
	wrongRoot
)

// check: a file system that is looked through, and what was found.
type check struct {
	*tree
	rings    numbers
	findings []Finding
}

// inOrder: by keys, of one key by what is wrong.
func inOrder(a, b Finding) int {
	return cmp.Or(strings.Compare(a.Key, b.Key), cmp.Compare(a.Kind, b.Kind))
}

// tell: a finding, if it is so.
func (c *check) tell(kind int, key string, so bool) {
	if so {
		c.findings = append(c.findings, Finding{Kind: kind, Key: key})
	}
}

// look: at a node. Of one that is wrong by itself nothing more is asked.
func (c *check) look(n api.Node) {
	if !right(n) {
		c.tell(wrongNode, n.Key, true)
		return
	}
	kind, _, _, _ := node.Kind(n.Key)
	switch kind {
	case ofInode:
		c.inode(n)
	case ofEntry:
		c.entry(n)
	case ofBlock:
		c.block(n)
	case ofOrphan:
		c.orphan(n)
	}
}

func (c *check) inode(n api.Node) {
	i, _ := node.ParseInode(n)
	names := c.named[i.Ino]
	c.tell(wrongLinks, n.Key, i.Links != c.links(i))
	c.tell(lostInode, n.Key, names == 0 && i.Ino != root && !c.orphans.has(i.Ino))
	c.tell(ring, n.Key, i.Kind == api.Dir && (names > 1 || c.rings.has(i.Ino)))
}

// links: how many the inode should have.
func (c *check) links(i api.Inode) int {
	names := c.named[i.Ino]
	switch {
	case i.Kind != api.Dir:
		return names
	case i.Ino == root || names == 1:
		return 2 + c.dirs[i.Ino]
	}
	return 0
}

func (c *check) entry(n api.Node) {
	dir, e, _ := node.ParseEntry(n)
	i, there := c.inodes[e.Ino]
	c.tell(strayEntry, n.Key, !c.holds(dir))
	c.tell(noInode, n.Key, !there)
	c.tell(wrongKind, n.Key, there && e.Kind != i.Kind)
}

// holds: may entries stand in that directory?
func (c *check) holds(dir int) bool {
	return c.inodes[dir].Kind == api.Dir && (dir == root || c.named[dir] > 0)
}

func (c *check) block(n api.Node) {
	_, ino, _, block := node.Kind(n.Key)
	i, there := c.inodes[ino]
	end := block*api.Unit + len(n.Value)
	none := !there || i.Kind == api.Dir
	c.tell(strayBlock, n.Key, none)
	c.tell(beyondSize, n.Key, !none && end > i.Size && !c.orphans.has(ino))
}

func (c *check) orphan(n api.Node) {
	_, ino, _, _ := node.Kind(n.Key)
	c.tell(strayOrphan, n.Key, !c.there(ino))
}

// theRoot: what is asked of its key, whether a node has it or not.
func (c *check) theRoot() {
	c.tell(wrongRoot, node.InodeKey(root), c.inodes[root].Kind != api.Dir || c.named[root] > 0)
}
