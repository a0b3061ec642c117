package nand

import (
	"bytes"

	"pumice/api"
)

// extent: how much of an operation is done, by the numbers that a Cut's Torn has.
type extent int

const (
	none extent = iota
	half
	whole
)

// state: of a page.
type state int

const (
	erased state = iota
	programmed
	unreadable
)

// page: its data are a text, which nobody can change: chips that are clones may share it.
type page struct {
	state state
	data  string
}

// read: the page's bytes, filled up to a size.
func (p page) read(size int) ([]byte, api.Errno) {
	out := bytes.Repeat([]byte{0xff}, size)
	switch p.state {
	case erased:
		return out, api.OK
	case programmed:
		copy(out, p.data)
		return out, api.OK
	}
	return nil, api.EIO
}

// pages: those of one block, and which of them may be programmed next.
type pages struct {
	list []page
	next int
}

func (p *pages) has(n int) bool { return 0 <= n && n < len(p.list) }

func (p *pages) read(n, size int) ([]byte, api.Errno) { return p.list[n].read(size) }

// program: as much of it as is done, on the next page.
func (p *pages) program(data []byte, done extent) {
	switch done {
	case none:
		return
	case half:
		p.list[p.next] = page{state: unreadable}
	case whole:
		p.list[p.next] = page{state: programmed, data: string(data)}
	}
	p.next++
}

// erase: as much of it as is done, of all pages.
func (p *pages) erase(done extent) {
	switch done {
	case half:
		p.lay(unreadable)
		p.next = len(p.list)
	case whole:
		p.lay(erased)
		p.next = 0
	}
}

// lay: one state on all pages, without data.
func (p *pages) lay(s state) {
	for i := range p.list {
		p.list[i] = page{state: s}
	}
}
