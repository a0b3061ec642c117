package index

import "pumice/image"

// step: a node on the way to a key, and its last slot whose key is no greater (an inner node's first one, if there is none; a leaf's: -1).
type step struct {
	*node
	at  int
	end string // the key behind all of its keys; empty: there is none
}

// find: a key's place, and whether it has one.
func (x *Index) find(l *looker, key string) (image.Place, bool, error) {
	n, end := x.top, ""
	for n != nil {
		i := image.Child(n.Image, key)
		if i < 0 {
			break
		}
		if n.Level == 0 {
			return held(n.Slots[i], key)
		}
		kid, behind, err := l.kid(n, i, end)
		if err != nil {
			return image.Place{}, false, err
		}
		n, end = kid, behind
	}
	return image.Place{}, false, nil
}

// held: a slot's place, if it is this key's.
func held(s image.Slot, key string) (image.Place, bool, error) {
	if s.Key != key {
		return image.Place{}, false, nil
	}
	return s.At, true, nil
}

// path: from the root to the leaf in which a key stands, or would stand.
func (x *Index) path(l *looker, key string) ([]step, error) {
	n, end := x.top, ""
	if n == nil {
		n = &node{}
	}
	var path []step
	for n.Level > 0 {
		i := max(image.Child(n.Image, key), 0)
		path = append(path, step{n, i, end})
		kid, behind, err := l.kid(n, i, end)
		if err != nil {
			return nil, err
		}
		n, end = kid, behind
	}
	return append(path, step{n, image.Child(n.Image, key), end}), nil
}

// put: a slot's key has its place. What is needed of the chip is looked at ahead of the first change.
func (x *Index) put(l *looker, s image.Slot) error {
	path, err := x.path(l, s.Key)
	if err != nil {
		return err
	}
	leaf := path[len(path)-1]
	there := leaf.at >= 0 && leaf.Slots[leaf.at].Key == s.Key
	switch {
	case there && leaf.Slots[leaf.at] == s:
		return nil
	case there:
		leaf.Slots[leaf.at] = s
	case tooHigh(path):
		if err := x.rebuild(l); err != nil {
			return err
		}
		return x.put(l, s)
	default:
		leaf.replace(leaf.at+1, leaf.at+1, []image.Slot{s}, []*node{nil})
	}
	x.mend(l, path)
	return nil
}

// tooHigh: would one key more make a tree of more levels than an image can tell? None that the program parted is so high, but one that was opened may be.
func tooHigh(path []step) bool {
	for _, s := range path {
		if len(s.Slots) < image.Fan {
			return false
		}
	}
	top := path[0]
	return !image.Right(image.Image{Level: top.Level + 1, Slots: top.Slots})
}

// remove: takes a key out, if it is there.
func (x *Index) remove(l *looker, key string) (bool, error) {
	_, ok, err := x.find(l, key)
	if err != nil || !ok {
		return false, err
	}
	path, err := x.path(l, key)
	if err != nil {
		return false, err
	}
	leaf := path[len(path)-1]
	leaf.replace(leaf.at, leaf.at+1, nil, nil)
	x.mend(l, path)
	return true, nil
}

// mend: behind a change of a leaf the nodes above it are set right, from below on.
func (x *Index) mend(l *looker, path []step) {
	for len(path) > 1 {
		path = path[:len(path)-1]
		path[len(path)-1].settle(l)
	}
	top := path[0]
	x.top = lowered(grown(top.Level, top.Slots, top.kids))
}

// rebuild: all nodes are made anew, as full as they may be; none is on the chip.
func (x *Index) rebuild(l *looker) error {
	all, err := x.slots(l, everything())
	if err != nil {
		return err
	}
	x.top = grown(0, all, make([]*node, len(all)))
	return nil
}

// span: keys from from on and below to (an empty to: no end), the first most of them.
type span struct {
	from, to string
	most     int
}

// over: does the span end ahead of this key, if so many were found?
func (s span) over(key string, found int) bool {
	return found >= s.most || s.to != "" && key >= s.to
}

// slots: those whose keys lie in a span. A span that ends ahead of its beginning has none, and nothing is looked at.
func (x *Index) slots(l *looker, s span) ([]image.Slot, error) {
	if x.top == nil || s.over(s.from, 0) {
		return nil, nil
	}
	return s.gather(l, x.top, "", nil)
}

// gather: what was found, and what of a span stands below a node, whose keys end ahead of end. No node is looked at that can have nothing of it.
func (s span) gather(l *looker, n *node, end string, found []image.Slot) ([]image.Slot, error) {
	for i := max(image.Child(n.Image, s.from), 0); i < len(n.Slots); i++ {
		slot := n.Slots[i]
		switch {
		case s.over(slot.Key, len(found)):
			return found, nil
		case n.Level == 0 && slot.Key >= s.from:
			found = append(found, slot)
		case n.Level > 0:
			kid, behind, err := l.kid(n, i, end)
			if err != nil {
				return nil, err
			}
			if found, err = s.gather(l, kid, behind, found); err != nil {
				return nil, err
			}
		}
	}
	return found, nil
}
