package store

import (
	"pumice/api"
	"pumice/journal"
)

// Sync: all groups so far stand on the chip.
func (s *Store) Sync() api.Errno {
	switch {
	case s == nil:
		return api.EFAULT
	case s.off():
		return api.ENXIO
	}
	return told(s.sync())
}

// Commit: likewise, and the index stands there, too.
func (s *Store) Commit() api.Errno {
	switch {
	case s == nil:
		return api.EFAULT
	case s.off():
		return api.ENXIO
	case !s.behind:
		return api.OK
	case s.m.Spent():
		return api.EROFS
	}
	return told(s.checkpoint(kept(s.geometry())))
}

// Collect: one step of the collection of what is not needed: was there anything to do?
func (s *Store) Collect() (bool, api.Errno) {
	if s == nil {
		return false, api.EFAULT
	}
	if errno := s.shut(); errno != api.OK {
		return false, errno
	}
	done, err := s.collect()
	return done, told(err)
}

// Wear: one wear step: was there anything to do?
func (s *Store) Wear() (bool, api.Errno) {
	if s == nil {
		return false, api.EFAULT
	}
	return s.m.Wear()
}

// sync: what was appended stands on the chip.
func (s *Store) sync() error {
	if len(s.fresh) == 0 {
		return nil
	}
	errno := s.journal.Sync()
	if errno == api.EROFS && s.stands() {
		errno = api.OK
	}
	if errno == api.OK {
		clear(s.fresh)
	}
	return failed("journal", errno)
}

// stands: does the last node stand on the chip? A group that failed behind it may have filled its page, and then it is that group alone that the journal can't write any more.
func (s *Store) stands() bool {
	_, errno := journal.Load(s.m, s.last)
	return errno == api.OK
}
