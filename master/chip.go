package master

import (
	"errors"
	"slices"

	"pumice/api"
	"pumice/bits"
	"pumice/ebm"
	"pumice/wbuf"
)

// home: the logical block in which all of this stands.
const home = 0

// failure: what went wrong, and what it came of.
type failure struct {
	what  string
	cause error
}

func (f *failure) Error() string { return f.what + ": " + f.cause.Error() }

func (f *failure) Unwrap() error { return f.cause }

// failed: nil, if nothing is wrong.
func failed(what string, errno api.Errno) error {
	if errno == api.OK {
		return nil
	}
	return &failure{what, errno}
}

// told: what a call says of an error. Whatever else it comes of, it means that no master stands there.
func told(err error) api.Errno {
	if err == nil {
		return api.OK
	}
	for _, errno := range []api.Errno{api.EROFS, api.ENXIO, api.EIO} {
		if errors.Is(err, errno) {
			return errno
		}
	}
	return api.EUCLEAN
}

// stand: what stands on the chip.
type stand struct {
	log    *wbuf.Log
	newest Record
	saves  int
}

// look: the logical block as it is now.
func look(m *ebm.Manager) (stand, error) {
	log, errno := wbuf.Open(m, home)
	if errno != api.OK {
		return stand{}, failed("open", errno)
	}
	r := &reader{frames: log.Frames()}
	r.super(Super(m.Chip().Geometry()))
	s := stand{log: log, newest: r.record(), saves: 1}
	for r.more() {
		s.newest = r.record()
		s.saves++
	}
	if r.err != nil {
		return stand{}, r.err
	}
	return s, nil
}

// save: one record more; how many stand there then.
func save(m *ebm.Manager, r Record) (int, error) {
	// The chip is looked at anew, so that what stands there counts, whoever wrote it.
	s, err := look(m)
	if err == nil {
		err = s.add(r)
	}
	switch {
	case err == nil:
		return s.saves + 1, nil
	case errors.Is(err, api.EROFS), errors.Is(err, api.ENXIO):
		return 0, err
	}
	// There is no room; or others took the place meanwhile, or spoilt it: behind that no record could be read.
	return 1, renew(m, r)
}

// add: a record behind the others, synced.
func (s stand) add(r Record) error {
	if _, errno := s.log.Append(packed(r)); errno != api.OK {
		return failed("append", errno)
	}
	return failed("sync", s.log.Sync())
}

// renew: the logical block has just the superblock and a record, at once.
func renew(m *ebm.Manager, r Record) error {
	// The superblock's frame is shorter than any page, so that the record's never begins on a page's last byte, where no log has one.
	data := append(framed(Super(m.Chip().Geometry())), framed(packed(r))...)
	return failed("change", m.Change(home, slices.Collect(slices.Chunk(data, m.Page()))))
}

// framed: the frame of a payload that is never too long for one.
func framed(payload []byte) []byte {
	frame, _ := bits.Frame(payload)
	return frame
}
