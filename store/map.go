package store

import (
	"pumice/api"
	"pumice/bits"
	"pumice/image"
	"pumice/journal"
	"pumice/space"
)

// A node's frame: its head, as bits lays it; what the journal lays ahead of the key, at last how many bytes that has; the key; the value.
const (
	headBytes = 6
	lengthAt  = 2
	keyAt     = 3
	bareBytes = headBytes + keyAt
)

// slotOf: a node that stands at a place of the journal.
func slotOf(n api.Node, p journal.Place) image.Slot {
	return image.Slot{Key: n.Key, At: image.Place{Leb: p.Leb, Pos: p.Pos, Size: bareBytes + len(n.Key) + len(n.Value)}}
}

// valueBytes: how many bytes the value of a slot's node has.
func valueBytes(s image.Slot) int { return s.At.Size - bareBytes - len(s.Key) }

// cost: of a slot's node. Its value need not be read for that.
func cost(s image.Slot) int { return space.Node(s.Key, "") + valueBytes(s) }

// Put: a group changes the map at once.
func (s *Store) Put(g []api.Node) api.Errno {
	if s == nil {
		return api.EFAULT
	}
	if errno := journal.Right(g); errno != api.OK {
		return errno
	}
	if errno := s.shut(); errno != api.OK {
		return errno
	}
	behind, err := s.costBehind(g)
	switch {
	case err != nil:
		return told(err)
	case behind > max(s.Limit(), s.cost):
		return api.ENOSPC
	}
	return told(s.put(g))
}

// costBehind: what all nodes cost behind a group.
func (s *Store) costBehind(g []api.Node) (int, error) {
	total := s.cost
	for _, n := range g {
		at, ok, errno := s.index.Get(n.Key)
		if errno != api.OK {
			return 0, failed("index", errno)
		}
		if ok {
			total -= cost(image.Slot{Key: n.Key, At: at})
		}
		if !n.Gone {
			total += space.Node(n.Key, n.Value)
		}
	}
	return total, nil
}

// put: does a group for which the map has room. Nothing of the map changes until the journal has it.
func (s *Store) put(g []api.Node) error {
	if err := s.prepare(g); err != nil {
		return err
	}
	places, err := s.add(s.journal, g)
	if err != nil {
		return err
	}
	for i, n := range g {
		if err := s.change(slotOf(n, places[i]), n.Gone); err != nil {
			return err
		}
		s.fresh[n.Key] = n
	}
	s.last, s.behind = places[len(places)-1], true
	return nil
}

// prepare: the journal can take a group, and behind that as many logical blocks are free as are kept.
func (s *Store) prepare(g []api.Node) error {
	if s.journal != nil && (s.journal.Fits(g) || s.frees() > kept(s.geometry())) {
		return nil
	}
	return s.checkpoint(growth(s.geometry()))
}

// add: a group goes to a journal: to a segment more, if the last one has no room.
func (s *Store) add(j *journal.Journal, g []api.Node) ([]journal.Place, error) {
	if !j.Fits(g) {
		if err := s.grow(j); err != nil {
			return nil, err
		}
	}
	places, errno := j.Append(g)
	return places, failed("journal", errno)
}

// grow: a journal has a segment more. (Where no logical block is free, that is 0, which no journal takes.)
func (s *Store) grow(j *journal.Journal) error {
	leb, _ := s.book.Least()
	if errno := j.Add(leb); errno != api.OK {
		return failed("journal", errno)
	}
	clear(s.fresh) // what was appended ahead of a segment stands on the chip
	return s.take(forJournal, leb)
}

// change: a key's node is this one from now on, or none.
func (s *Store) change(slot image.Slot, gone bool) error {
	err := s.strike(slot.Key)
	if err == nil && !gone {
		err = s.enter(slot)
	}
	if err != nil {
		return err
	}
	return s.lead(slot, gone)
}

// lead: the index leads to this node, or to none of its key.
func (s *Store) lead(slot image.Slot, gone bool) error {
	if gone {
		_, errno := s.index.Delete(slot.Key)
		return failed("index", errno)
	}
	return failed("index", s.index.Put(slot.Key, slot.At))
}

// Get: a key's value, and whether it has one.
func (s *Store) Get(key string) (string, bool, api.Errno) {
	switch {
	case s == nil:
		return "", false, api.EFAULT
	case len(key) < 1 || len(key) > api.MaxKey:
		return "", false, api.EINVAL
	case s.off():
		return "", false, api.ENXIO
	}
	at, ok, errno := s.index.Get(key)
	if errno != api.OK || !ok {
		return "", false, told(failed("index", errno))
	}
	value, err := s.value(image.Slot{Key: key, At: at})
	return value, err == nil, told(err)
}

// Range: the nodes with keys from from on and below to, the first most of them.
func (s *Store) Range(from, to string, most int) ([]api.Node, api.Errno) {
	switch {
	case s == nil:
		return nil, api.EFAULT
	case most < 0:
		return nil, api.EINVAL
	case s.off():
		return nil, api.ENXIO
	}
	slots, errno := s.index.Range(from, to, most)
	if errno != api.OK {
		return nil, told(failed("index", errno))
	}
	l := make([]api.Node, 0, len(slots))
	for _, slot := range slots {
		value, err := s.value(slot)
		if err != nil {
			return nil, told(err)
		}
		l = append(l, api.Node{Key: slot.Key, Value: value})
	}
	return l, api.OK
}

// value: of a slot's node. Its frame is read alone: journal.Load would read the whole of the log around it.
func (s *Store) value(slot image.Slot) (string, error) {
	if n, ok := s.fresh[slot.Key]; ok {
		return n.Value, nil
	}
	b, err := s.bytes(slot.At)
	if err != nil {
		return "", err
	}
	payload, _, _ := bits.Unframe(b)
	valueAt := keyAt + len(slot.Key)
	if len(payload) != valueAt+valueBytes(slot) || int(payload[lengthAt]) != len(slot.Key) || string(payload[keyAt:valueAt]) != slot.Key {
		return "", failed("node", api.EIO)
	}
	return string(payload[valueAt:]), nil
}

// bytes: what stands at a place, and behind it up to the end of its last page.
func (s *Store) bytes(at image.Place) ([]byte, error) {
	page := s.m.Page()
	first := at.Pos / page
	var b []byte
	for i := first; i*page < at.Pos+at.Size; i++ {
		data, errno := s.m.Read(at.Leb, i)
		if errno != api.OK {
			return nil, failed("node", errno)
		}
		b = append(b, data...)
	}
	return b[at.Pos-first*page:], nil
}
