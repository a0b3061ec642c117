package space

import "pumice/api"

// Change: what the nodes of l cost ahead of the group g, and behind it.
func Change(l []api.Node, g []api.Node) (int, int) {
	costs := make(tree, len(l))
	costs.change(l)
	ahead := costs.total()
	costs.change(g)
	return ahead, costs.total()
}

// Room: may the group g be done to the nodes of l, so that they stay within a limit, or cost no more than they did?
func Room(l []api.Node, g []api.Node, limit int) api.Errno {
	ahead, behind := Change(l, g)
	if behind > max(limit, ahead) {
		return api.ENOSPC
	}
	return api.OK
}

// tree: what the node of each key costs. Of several nodes of one key only the last one counts, so that a running sum would not do.
type tree map[string]int

// change: each node is put in, or taken out, in order.
func (t tree) change(l []api.Node) {
	for _, n := range l {
		if n.Gone {
			delete(t, n.Key)
			continue
		}
		t[n.Key] = Node(n.Key, n.Value)
	}
}

// total: what all cost together.
func (t tree) total() int {
	total := 0
	for _, n := range t {
		total = sum(top, total, n)
	}
	return total
}
