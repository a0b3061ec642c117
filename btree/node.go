package btree

import (
	"iter"
	"slices"
	"sort"

	"pumice/api"
)

// slot: a key, with its value in a leaf, with a kid in an inner node.
type slot struct {
	key, value string
	kid        *node
}

// told: a leaf's slot as it is handed out.
func (s slot) told() api.Node { return api.Node{Key: s.key, Value: s.value} }

// node: of a tree. The key ahead of a kid is always the kid's first: that costs nothing, since where a kid changes the node above it is dirty anyway, and so no key between two kids can be lost on the way down.
type node struct {
	level int
	slots []slot
	dirty bool
}

// lead: the slot that leads to a node from the one above it.
func (n *node) lead() slot { return slot{key: n.slots[0].key, kid: n} }

// from: the place of the first slot whose key is no lesser.
func (n *node) from(key string) int {
	return sort.Search(len(n.slots), func(i int) bool { return n.slots[i].key >= key })
}

// behind: the place of the first slot whose key is greater.
func (n *node) behind(key string) int {
	return sort.Search(len(n.slots), func(i int) bool { return n.slots[i].key > key })
}

// place: of the kid under which a key stands, or would stand. One that is lesser than all is the first kid's.
func (n *node) place(key string) int { return max(n.behind(key)-1, 0) }

// leaf: the one in which a key stands, or would stand.
func (t *Tree) leaf(key string) *node {
	n := t.root
	for n.level > 0 {
		n = n.slots[n.place(key)].kid
	}
	return n
}

// leaves: from the one in which a key stands, or would stand, on to the right.
func (t *Tree) leaves(key string) iter.Seq[*node] {
	return func(yield func(*node) bool) { t.root.walk(key, yield) }
}

// walk: does it go on behind the leaves under this node?
func (n *node) walk(key string, yield func(*node) bool) bool {
	if n.level == 0 {
		return yield(n)
	}
	for _, s := range n.slots[n.place(key):] {
		if !s.kid.walk(key, yield) {
			return false
		}
	}
	return true
}

// put: a slot into the leaf where it belongs. The node itself may have one too many then, which is for the one above it to see to.
func (n *node) put(s slot, fan int) {
	n.dirty = true
	if n.level == 0 {
		n.lay(s)
		return
	}
	i := n.place(s.key)
	kid := n.slots[i].kid
	kid.put(s, fan)
	n.slots[i] = kid.lead()
	if len(kid.slots) > fan {
		n.slots = slices.Insert(n.slots, i+1, kid.part().lead())
	}
}

// lay: a slot into this leaf, in the place of the one with its key, if there is one.
func (n *node) lay(s slot) {
	i := n.from(s.key)
	if i < len(n.slots) && n.slots[i].key == s.key {
		n.slots[i] = s
		return
	}
	n.slots = slices.Insert(n.slots, i, s)
}

// part: the greater half of a node's slots goes to a new one.
func (n *node) part() *node {
	half := len(n.slots) / 2
	right := &node{level: n.level, slots: slices.Clone(n.slots[half:]), dirty: true}
	n.slots = slices.Delete(n.slots, half, len(n.slots))
	return right
}

// remove: a key that is there. The node itself may have one slot too few then, which is for the one above it to see to.
func (n *node) remove(key string, fan int) {
	n.dirty = true
	if n.level == 0 {
		i := n.from(key)
		n.slots = slices.Delete(n.slots, i, i+1)
		return
	}
	i := n.place(key)
	kid := n.slots[i].kid
	kid.remove(key, fan)
	n.slots[i] = kid.lead()
	if len(kid.slots) < fan/2 {
		n.join(max(i-1, 0), fan)
	}
}

// join: the kid at a place and the one behind it become one; if that would be too full, they share evenly.
func (n *node) join(i, fan int) {
	left, right := n.slots[i].kid, n.slots[i+1].kid
	left.dirty = true
	left.slots = append(left.slots, right.slots...)
	if len(left.slots) > fan {
		n.slots[i+1] = left.part().lead()
		return
	}
	n.slots = slices.Delete(n.slots, i+1, i+2)
}

// kids: of an inner node; none of a leaf.
func (n *node) kids() []*node {
	if n.level == 0 {
		return nil
	}
	l := make([]*node, len(n.slots))
	for i, s := range n.slots {
		l[i] = s.kid
	}
	return l
}

func (n *node) shape() Shape {
	keys := make([]string, len(n.slots))
	for i, s := range n.slots {
		keys[i] = s.key
	}
	return Shape{Level: n.level, Keys: keys, Dirty: n.dirty}
}

// clean: how many nodes were dirty. Under one that is not, none is.
func (n *node) clean() int {
	if !n.dirty {
		return 0
	}
	n.dirty = false
	count := 1
	for _, kid := range n.kids() {
		count += kid.clean()
	}
	return count
}

func (n *node) clone() *node {
	twin := &node{level: n.level, slots: slices.Clone(n.slots), dirty: n.dirty}
	for i, kid := range n.kids() {
		twin.slots[i].kid = kid.clone()
	}
	return twin
}
