package audit

import (
	"slices"
	"strings"

	"pumice/api"
	"pumice/node"
)

// Kinds of keys, as node.Kind tells them.
const (
	ofInode = iota + 1
	ofEntry
	ofBlock
	ofOrphan
)

// numbers: of inodes, each once.
type numbers map[int]struct{}

func (s numbers) add(n int) { s[n] = struct{}{} }

func (s numbers) has(n int) bool {
	_, ok := s[n]
	return ok
}

// tree: what a file system's nodes say, by the numbers of inodes.
type tree struct {
	nodes   []api.Node
	inodes  map[int]api.Inode // those that are there
	orphans numbers           // those that have an orphan's node
	named   map[int]int       // how many entries name each
	dirs    map[int]int       // how many entries each has whose Kind is Dir
	leads   map[int][]int     // whom each one's entries name
}

func survey(l []api.Node) *tree {
	t := &tree{
		nodes:   tidy(l),
		inodes:  map[int]api.Inode{},
		orphans: numbers{},
		named:   map[int]int{},
		dirs:    map[int]int{},
		leads:   map[int][]int{},
	}
	for _, n := range t.nodes {
		t.enter(n)
	}
	return t
}

// tidy: the nodes in the order of keys, of each key the last one, without those that are Gone.
func tidy(l []api.Node) []api.Node {
	sorted := slices.Clone(l)
	// A stable sort, since it counts which of one key's nodes is the last.
	slices.SortStableFunc(sorted, func(a, b api.Node) int { return strings.Compare(a.Key, b.Key) })
	kept := sorted[:0]
	for i, n := range sorted {
		last := i+1 == len(sorted) || sorted[i+1].Key != n.Key
		if last && !n.Gone {
			kept = append(kept, n)
		}
	}
	return kept
}

// enter: what this node says. An inode's or an entry's that node does not take says nothing; an orphan's counts whatever its value is.
func (t *tree) enter(n api.Node) {
	kind, ino, _, _ := node.Kind(n.Key)
	switch kind {
	case ofInode:
		if i, ok := node.ParseInode(n); ok {
			t.inodes[ino] = i
		}
	case ofEntry:
		if dir, e, ok := node.ParseEntry(n); ok {
			t.enterEntry(dir, e)
		}
	case ofOrphan:
		t.orphans.add(ino)
	}
}

func (t *tree) enterEntry(dir int, e api.Entry) {
	t.named[e.Ino]++
	t.leads[dir] = append(t.leads[dir], e.Ino)
	if e.Kind == api.Dir {
		t.dirs[dir]++
	}
}

// there: is the inode there?
func (t *tree) there(ino int) bool {
	_, ok := t.inodes[ino]
	return ok
}

// from: that number, and all to which it leads by entries.
func (t *tree) from(ino int) numbers {
	found, left := numbers{}, []int{ino}
	for len(left) > 0 {
		last := len(left) - 1
		next := left[last]
		left = left[:last]
		if !found.has(next) {
			found.add(next)
			left = append(left, t.leads[next]...)
		}
	}
	return found
}

// right: is the key one of node's, with a value that such a node may have?
func right(n api.Node) bool {
	kind, _, _, _ := node.Kind(n.Key)
	switch kind {
	case ofInode:
		_, ok := node.ParseInode(n)
		return ok
	case ofEntry:
		_, _, ok := node.ParseEntry(n)
		return ok
	case ofBlock:
		return 1 <= len(n.Value) && len(n.Value) <= api.Unit
	case ofOrphan:
		return n.Value == ""
	}
	return false
}
