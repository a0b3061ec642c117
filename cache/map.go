package cache

import (
	"maps"
	"slices"

	"pumice/api"
)

// Get: a key's value, and whether it has one.
func (c *Cache) Get(key string) (string, bool, api.Errno) {
	if c.Store() == nil {
		return "", false, api.EFAULT
	}
	value, ok, errno := c.look(key)
	if _, waits := c.find(key); ok && !waits {
		c.kept[key] = value
	}
	return value, ok, errno
}

// look: what Get tells; nothing is kept of it.
func (c *Cache) look(key string) (string, bool, api.Errno) {
	n, known := c.known(key)
	if !known {
		return c.s.Get(key)
	}
	if errno := c.on(); errno != api.OK {
		return "", false, errno
	}
	return n.Value, !n.Gone, api.OK
}

// known: the node of a key for which the store need not be asked.
func (c *Cache) known(key string) (api.Node, bool) {
	if i, found := c.find(key); found {
		return c.changes[i].node, true
	}
	value, ok := c.kept[key]
	return api.Node{Key: key, Value: value}, ok
}

// Range: the nodes with keys from from on and below to, the first most of them. The store is asked for what lies between the keys that changes wait for, so that nothing is read in vain.
func (c *Cache) Range(from, to string, most int) ([]api.Node, api.Errno) {
	if c.Store() == nil {
		return nil, api.EFAULT
	}
	var l []api.Node
	for _, x := range c.changesIn(from, to) {
		var errno api.Errno
		l, errno = c.read(l, from, x.node.Key, most)
		if errno != api.OK || len(l) == most {
			return l, errno
		}
		if !x.node.Gone {
			l = append(l, x.node)
		}
		from = x.node.Key + "\x00" // no key lies between
	}
	return c.read(l, from, to, most)
}

// changesIn: the changes of keys from from on and below to.
func (c *Cache) changesIn(from, to string) []change {
	first, _ := c.find(from)
	last := len(c.changes)
	if to != "" {
		last, _ = c.find(to)
	}
	return c.changes[min(first, last):last]
}

// read: nodes, and behind them those that the store has from from on and below to, at most so many in all. Their values are kept: none of them waits.
func (c *Cache) read(l []api.Node, from, to string, most int) ([]api.Node, api.Errno) {
	more, errno := c.s.Range(from, to, most-len(l))
	if errno != api.OK {
		return nil, errno
	}
	for _, n := range more {
		c.kept[n.Key] = n.Value
	}
	return append(l, more...), api.OK
}

// Evict: of the values that are kept all but most go, those with the last keys: how many are kept then.
func (c *Cache) Evict(most int) int {
	if c == nil {
		return 0
	}
	if len(c.kept) > max(most, 0) {
		for _, key := range slices.Sorted(maps.Keys(c.kept))[max(most, 0):] {
			delete(c.kept, key)
		}
	}
	return len(c.kept)
}
