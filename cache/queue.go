package cache

import (
	"slices"
	"strings"

	"pumice/api"
	"pumice/journal"
	"pumice/space"
)

// change: what the groups that wait do to a key.
type change struct {
	node   api.Node // that of the last one of them
	groups int      // how many of them have the key
}

// Put: a group waits, and is there from now on.
func (c *Cache) Put(g []api.Node) api.Errno {
	if c.Store() == nil {
		return api.EFAULT
	}
	if errno := journal.Right(g); errno != api.OK {
		return errno
	}
	if errno := c.on(); errno != api.OK {
		return errno
	}
	if c.s.Spent() {
		return api.EROFS
	}
	growth, errno := c.growthBy(g)
	switch {
	case errno != api.OK:
		return errno
	case growth > 0 && c.Cost()+growth > c.Limit():
		return api.ENOSPC
	}
	c.growth += growth
	c.enqueue(slices.Clone(g))
	return api.OK
}

// growthBy: how much more the map costs behind a group. Only the nodes of its keys count for that.
func (c *Cache) growthBy(g []api.Node) (int, api.Errno) {
	var now []api.Node
	for _, n := range g {
		value, ok, errno := c.look(n.Key)
		if errno != api.OK {
			return 0, errno
		}
		if ok {
			now = append(now, api.Node{Key: n.Key, Value: value})
		}
	}
	ahead, behind := space.Change(now, g)
	return behind - ahead, api.OK
}

// enqueue: a group waits behind all others. What was read under its keys is old now.
func (c *Cache) enqueue(g []api.Node) {
	c.waiting = append(c.waiting, g)
	for _, n := range g {
		delete(c.kept, n.Key)
		i, found := c.find(n.Key)
		if !found {
			c.changes = slices.Insert(c.changes, i, change{})
		}
		c.changes[i].node = n
		c.changes[i].groups++
	}
}

// dequeue: the first group waits no more. What others do to its keys still does.
func (c *Cache) dequeue() {
	for _, n := range c.waiting[0] {
		i, _ := c.find(n.Key)
		c.changes[i].groups--
		if c.changes[i].groups == 0 {
			c.changes = slices.Delete(c.changes, i, i+1)
		}
	}
	c.waiting[0] = nil // the array behind the queue holds on to it else
	c.waiting = c.waiting[1:]
}

// find: where the change of a key stands, or would stand, and whether there is one.
func (c *Cache) find(key string) (int, bool) {
	return slices.BinarySearchFunc(c.changes, key, func(x change, key string) int { return strings.Compare(x.node.Key, key) })
}

// Flush: the first group that waits is put into the store: was there one?
func (c *Cache) Flush() (bool, api.Errno) {
	switch {
	case c.Store() == nil:
		return false, api.EFAULT
	case len(c.waiting) == 0:
		return false, api.OK
	}
	cost := c.Cost()
	if errno := c.s.Put(c.waiting[0]); errno != api.OK {
		return false, errno
	}
	c.growth = cost - c.s.Cost() // the map is what it was
	c.dequeue()
	return true, api.OK
}

// Sync: all groups so far stand on the chip.
func (c *Cache) Sync() api.Errno {
	more, errno := c.Flush()
	for more {
		more, errno = c.Flush()
	}
	if errno != api.OK {
		return errno
	}
	return c.s.Sync()
}
