package store

import (
	"cmp"
	"slices"

	"pumice/api"
	"pumice/image"
	"pumice/journal"
	"pumice/master"
)

// draft: of a checkpoint.
type draft struct {
	slots   []image.Slot // all of the index
	index   int          // how many logical blocks the index takes, if it is written as a whole
	goal    int          // so many logical blocks are to be free behind it
	victims []int        // segments from which all nodes are moved
}

// drafted: without a goal yet.
func (s *Store) drafted() (draft, error) {
	slots, err := s.slots()
	if err != nil {
		return draft{}, err
	}
	keys := make([]string, 0, len(slots))
	for _, slot := range slots {
		keys = append(keys, slot.Key)
	}
	// Behind a frame there may be a byte of filling; there are no more frames than keys.
	return draft{slots: slots, index: logs(s.geometry(), image.Bound(keys)+len(keys))}, nil
}

// aim: the victims that bring a draft to a goal: of the segments those with the fewest live bytes, as few as may be, and all that have none. Do they? (They do, if they need not leave more free than growth says.)
func (s *Store) aim(d *draft, goal int) bool {
	live := func(leb int) int {
		b, _ := s.book.Block(leb)
		return b.Live
	}
	lebs := s.book.Of(forJournal)
	slices.SortStableFunc(lebs, func(one, other int) int { return cmp.Compare(live(one), live(other)) })
	free, moved, n := s.frees()+len(s.book.Of(forIndex))-d.index, 0, 0
	reached := func() bool { return free+n-logs(s.geometry(), moved) >= goal }
	for n < len(lebs) && (live(lebs[n]) == 0 || !reached()) {
		moved += live(lebs[n])
		n++
	}
	d.goal, d.victims = goal, lebs[:n]
	return reached()
}

// checkpoint: behind it so many logical blocks are free.
func (s *Store) checkpoint(goal int) error {
	d, err := s.drafted()
	if err != nil {
		return err
	}
	s.aim(&d, goal)
	return s.begin(d)
}

// collect: a checkpoint, if it is worth its price: it frees at least as many logical blocks as the index takes.
func (s *Store) collect() (bool, error) {
	d, err := s.drafted()
	if err != nil || !s.aim(&d, s.frees()+max(d.index, 1)) {
		return false, err
	}
	err = s.begin(d)
	return err == nil, err
}

// begin: a new epoch begins with the nodes that are moved. It counts as soon as its record is saved.
func (s *Store) begin(d draft) error {
	if err := s.sync(); err != nil {
		return err
	}
	s.epoch++
	next := journal.New(s.m, s.epoch)
	if err := s.move(next, d); err != nil {
		return err
	}
	root, err := s.commit(d)
	if err != nil {
		return err
	}
	if errno := s.master.Save(master.Record{Epoch: s.epoch, Text: packed(root)}); errno != api.OK {
		return failed("master", errno)
	}
	s.journal, s.behind = next, false
	if err := s.release(); err != nil {
		return err
	}
	return s.tidy()
}

// move: the victims' nodes go to a journal. The index leads there only when all of them stand on the chip: if that is spent meanwhile, what is read is where it was.
func (s *Store) move(to *journal.Journal, d draft) error {
	var moved []image.Slot
	for _, slot := range d.slots {
		if !slices.Contains(d.victims, slot.At.Leb) {
			continue
		}
		value, err := s.value(slot)
		if err != nil {
			return err
		}
		n := api.Node{Key: slot.Key, Value: value}
		places, err := s.add(to, []api.Node{n})
		if err != nil {
			return err
		}
		moved = append(moved, slotOf(n, places[0]))
	}
	if errno := to.Sync(); errno != api.OK {
		return failed("journal", errno)
	}
	for _, slot := range moved {
		if err := s.change(slot, false); err != nil {
			return err
		}
	}
	return nil
}

// commit: the index stands on the chip: only what was changed of it, if that leaves as many logical blocks free as the goal says; else all of it, so that none of those is needed in which it stood.
func (s *Store) commit(d draft) (image.Place, error) {
	frees := s.book.Frees()
	root, needed, errno := image.Place{}, 0, api.ENOSPC
	if spare := len(frees) + len(d.victims) - d.goal; spare >= 0 {
		root, needed, errno = s.index.Commit(frees[:min(spare, len(frees))])
	}
	if errno == api.ENOSPC {
		errno = s.index.Touch()
		if errno == api.OK {
			root, needed, errno = s.index.Commit(frees)
		}
	}
	if errno != api.OK {
		return image.Place{}, failed("index", errno)
	}
	return root, s.take(forIndex, frees[:needed]...)
}
