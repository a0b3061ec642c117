package ebm

import (
	"errors"
	"strconv"

	"pumice/api"
	"pumice/header"
	"pumice/scan"
)

// failure: what was done with which block, and what it came of.
type failure struct {
	what  string
	block int
	cause error
}

func (f *failure) Error() string {
	return f.what + " " + strconv.Itoa(f.block) + ": " + f.cause.Error()
}

func (f *failure) Unwrap() error { return f.cause }

// failed: nil, if nothing is wrong.
func failed(what string, block int, errno api.Errno) error {
	if errno == api.OK {
		return nil
	}
	return &failure{what, block, errno}
}

// errnoOf: the errno that an error wraps.
func errnoOf(err error) (errno api.Errno) {
	errors.As(err, &errno)
	return errno
}

// foremost: of the blocks in a state the first whose Count comes ahead of all others'; -1: none.
func (m *Manager) foremost(state int, ahead func(count, best int) bool) int {
	best := -1
	for _, n := range m.among(state) {
		if best < 0 || ahead(m.blocks[n].Count, m.blocks[best].Count) {
			best = n
		}
	}
	return best
}

// take: the Free block that is to be written next. None is left only where all others went bad: the chip is spent then.
func (m *Manager) take() (int, error) {
	n := scan.Least(m.blocks)
	if n < 0 {
		return n, failed("take", n, api.EROFS)
	}
	return n, nil
}

// free: a block is erased, and told how often it was; one that fails is not needed any more, so that is no failure of the call.
func (m *Manager) free(n int) error {
	count := m.blocks[n].Count + 1
	err := m.erase(n)
	if err == nil {
		err = m.tell(n, count)
	}
	switch {
	case err == nil:
		m.blocks[n] = scan.Block{State: scan.Free, Count: count}
	case errors.Is(err, api.EIO):
		m.retire(n)
		return nil
	}
	return err
}

// tell: how often a block was erased, on its first page. If no page can tell it, the block is worn out.
func (m *Manager) tell(n, count int) error {
	image, errno := header.Count(count, m.Page())
	if errno != api.OK {
		return failed("count", n, api.EIO)
	}
	return m.program(n, countPage, image)
}

// retire: a block is bad for good.
func (m *Manager) retire(n int) {
	m.chip.Mark(n)
	m.blocks[n] = scan.Block{State: scan.Bad}
}

// The chip may be in others' hands, too, but its Wrong never grows by the manager's: it is asked ahead of each operation. A block that others marked is one that fails.

// program: the next page of a block. If it is not the next one any more, what is kept here is good for nothing.
func (m *Manager) program(n, page int, data []byte) error {
	switch {
	case m.chip.Bad(n):
		return failed("program", n, api.EIO)
	case m.chip.Next(n) != page:
		return failed("program", n, api.ENXIO)
	}
	return failed("program", n, m.chip.Program(n, page, data))
}

func (m *Manager) erase(n int) error {
	if m.chip.Bad(n) {
		return failed("erase", n, api.EIO)
	}
	return failed("erase", n, m.chip.Erase(n))
}

// read: a page that is to be copied. It was written: if it can't be read, others changed the chip, and what is kept here is good for nothing. (EIO would say that the block failed to which it is copied.)
func (m *Manager) read(n, i int) ([]byte, error) {
	data, errno := m.chip.Read(n, firstPage+i)
	if errno != api.OK {
		return nil, failed("read", n, api.ENXIO)
	}
	return data, nil
}
