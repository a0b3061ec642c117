package ebm

import (
	"bytes"
	"errors"

	"pumice/api"
	"pumice/scan"
)

// Read: a page of a logical block; 0xff, if it was not written.
func (m *Manager) Read(leb, page int) ([]byte, api.Errno) {
	switch {
	case m == nil:
		return nil, api.EFAULT
	case !m.has(leb) || page < 0 || page >= m.Pages():
		return nil, api.EINVAL
	case m.off():
		return nil, api.ENXIO
	case page >= m.Used(leb):
		return bytes.Repeat([]byte{0xff}, m.Page()), api.OK
	}
	// EIO, where others spoilt the page on the chip: those above are told so, and what they read elsewhere is right still.
	return m.chip.Read(scan.Find(m.blocks, leb), firstPage+page)
}

// Write: the data are the next page of a logical block.
func (m *Manager) Write(leb int, data []byte) api.Errno {
	switch {
	case m == nil:
		return api.EFAULT
	case !m.has(leb) || len(data) > m.Page():
		return api.EINVAL
	}
	return m.do(func() error { return m.extend(leb, data) })
}

// Unmap: a logical block has no pages any more.
func (m *Manager) Unmap(leb int) api.Errno {
	switch {
	case m == nil:
		return api.EFAULT
	case !m.has(leb):
		return api.EINVAL
	}
	return m.do(func() error { return m.drop(scan.Find(m.blocks, leb)) })
}

// Change: a logical block has just these pages, at once.
func (m *Manager) Change(leb int, pages [][]byte) api.Errno {
	switch {
	case m == nil:
		return api.EFAULT
	case !m.has(leb) || !m.fit(pages):
		return api.EINVAL
	}
	return m.do(func() error { return m.replace(leb, pages) })
}

// Wear: moves a logical block off the least worn block, if others are worn much more: was there one to move?
func (m *Manager) Wear() (bool, api.Errno) {
	if m == nil {
		return false, api.EFAULT
	}
	moved := false
	errno := m.do(func() (err error) {
		moved, err = m.level()
		return err
	})
	return moved, errno
}

// has: is there such a logical block?
func (m *Manager) has(leb int) bool { return 0 <= leb && leb < m.Lebs() }

// fit: may a logical block have these pages?
func (m *Manager) fit(pages [][]byte) bool {
	for _, p := range pages {
		if len(p) > m.Page() {
			return false
		}
	}
	return len(pages) <= m.Pages()
}

// do: what a call does to the chip, if it may.
func (m *Manager) do(call func() error) api.Errno {
	switch {
	case m.off():
		return api.ENXIO
	case m.Spent():
		return api.EROFS
	}
	return m.answer(call())
}

// off: is the power off, or was it? What is kept is good for nothing from then on.
func (m *Manager) off() bool {
	m.lost = m.lost || !m.chip.On()
	return m.lost
}

// answer: what a call says of an error.
func (m *Manager) answer(err error) api.Errno {
	m.lost = m.lost || errors.Is(err, api.ENXIO)
	return errnoOf(err)
}
