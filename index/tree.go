package index

import (
	"slices"

	"pumice/image"
)

// least: slots that a node has at the least, if it is not the root and can be joined with a neighbour.
const least = image.Fan / 2

// node: of the tree, as far as it is in memory.
type node struct {
	image.Image         // the place of a node below that is dirty counts only while it is written
	kids        []*node // one for each slot; nil till it is looked at (of a leaf for good)
	dirty       bool    // not on the chip as it is now; then the nodes above are dirty, too
}

// between: are all its keys from from on and below end?
func (n *node) between(from, end string) bool {
	first, last := n.Slots[0].Key, n.Slots[len(n.Slots)-1].Key
	return first >= from && (end == "" || last < end)
}

// replace: what stands in the slots from from on, up to to, is put out; these stand there.
func (n *node) replace(from, to int, slots []image.Slot, kids []*node) {
	n.Slots = slices.Replace(n.Slots, from, to, slots...)
	n.kids = slices.Replace(n.kids, from, to, kids...)
}

// parted: new nodes with these slots, in order.
func parted(level int, slots []image.Slot, kids []*node) []*node {
	var nodes []*node
	for _, list := range image.Split(slots) {
		size := len(list)
		nodes = append(nodes, &node{image.Image{Level: level, Slots: list}, slices.Clone(kids[:size]), true})
		kids = kids[size:]
	}
	return nodes
}

// above: the slots of nodes in the one above them. Their places are told when they are written.
func above(nodes []*node) []image.Slot {
	slots := make([]image.Slot, 0, len(nodes))
	for _, n := range nodes {
		slots = append(slots, image.Slot{Key: n.Slots[0].Key})
	}
	return slots
}

// grown: the root of a tree over these slots, level by level; nil, if there is none.
func grown(level int, slots []image.Slot, kids []*node) *node {
	nodes := parted(level, slots, kids)
	for len(nodes) > 1 {
		level++
		nodes = parted(level, above(nodes), nodes)
	}
	if len(nodes) == 0 {
		return nil
	}
	return nodes[0]
}

// lowered: a tree without such roots as have one node below. (Where that one is not in memory it stands on the chip, at the place that the root tells: the root stays.)
func lowered(top *node) *node {
	for top != nil && len(top.kids) == 1 && top.kids[0] != nil {
		top = top.kids[0]
	}
	return top
}

// settle: the node below by which a way to a leaf went on was changed: it is parted anew, if it has too many slots, or with a neighbour, if it has too few.
func (s step) settle(l *looker) {
	from, to := s.at, s.at+1
	if len(s.kids[s.at].Slots) < least {
		from, to = s.neighbours(l)
	}
	var slots []image.Slot
	var kids []*node
	for _, kid := range s.kids[from:to] {
		slots = append(slots, kid.Slots...)
		kids = append(kids, kid.kids...)
	}
	nodes := parted(s.Level-1, slots, kids)
	s.replace(from, to, above(nodes), nodes)
}

// neighbours: that node below with the one behind it, or ahead of it: from which slot up to which. One that can't be looked at is left alone: the call can do without it.
func (s step) neighbours(l *looker) (int, int) {
	if s.at+1 < len(s.kids) {
		if _, _, err := l.kid(s.node, s.at+1, s.end); err == nil {
			return s.at, s.at + 2
		}
	}
	if s.at > 0 {
		if _, _, err := l.kid(s.node, s.at-1, s.end); err == nil {
			return s.at - 1, s.at + 1
		}
	}
	return s.at, s.at + 1
}
