package fscore

import "pumice/api"

// builder: gathers the nodes of a group.
type builder struct {
	nodes []api.Node
	wrong bool // one of them can't be
}

// add: a node, as one of node's functions made it.
func (b *builder) add(n api.Node, errno api.Errno) {
	b.nodes = append(b.nodes, n)
	b.wrong = b.wrong || errno != api.OK
}

// out: nodes that are taken out.
func (b *builder) out(keys ...string) {
	for _, key := range keys {
		b.add(api.Node{Key: key, Gone: true}, api.OK)
	}
}
