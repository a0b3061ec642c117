package ebm

import (
	"errors"

	"pumice/api"
	"pumice/header"
	"pumice/scan"
)

// draft: what is to stand in a block: so many pages of a logical block, told one by one; as many of them as must be there, so that it counts.
type draft struct {
	leb, pages, must int
	page             func(i int) ([]byte, error)
}

// grown: a logical block that begins with one page, and grows.
func grown(leb int, data []byte) draft {
	return draft{leb, 1, 0, func(int) ([]byte, error) { return data, nil }}
}

// given: just these pages.
func given(leb int, pages [][]byte) draft {
	return draft{leb, len(pages), len(pages), func(i int) ([]byte, error) { return pages[i], nil }}
}

// copied: what stands in a block.
func (m *Manager) copied(n int) draft {
	b := m.blocks[n]
	return draft{b.Leb, b.Used, b.Used, func(i int) ([]byte, error) { return m.read(n, i) }}
}

// extend: one page more of a logical block.
func (m *Manager) extend(leb int, data []byte) error {
	n := scan.Find(m.blocks, leb)
	if n < 0 {
		_, err := m.settle(grown(leb, data))
		return err
	}
	if b := m.blocks[n]; b.Closed || b.Used == m.Pages() {
		return failed("extend", n, api.ENOSPC)
	}
	for {
		err := m.program(n, firstPage+m.blocks[n].Used, data)
		if err == nil {
			m.blocks[n].Used++
			return nil
		}
		if !errors.Is(err, api.EIO) {
			return err
		}
		if n, err = m.rescue(n); err != nil {
			return err
		}
	}
}

// rescue: what stands in a block that failed goes to another one, whose number is told. Till then it must not be marked: the copy may be cut off.
func (m *Manager) rescue(n int) (int, error) {
	to, err := m.settle(m.copied(n))
	if err == nil {
		m.retire(n)
	}
	return to, err
}

// drop: a block is not needed any more.
func (m *Manager) drop(n int) error {
	if n < 0 {
		return nil
	}
	return m.free(n)
}

// replace: a logical block has just these pages. Its old block counts until the new one is whole.
func (m *Manager) replace(leb int, pages [][]byte) error {
	old := scan.Find(m.blocks, leb)
	if _, err := m.settle(given(leb, pages)); err != nil {
		return err
	}
	return m.drop(old)
}

// level: moves what stands in the least worn block to the most worn one that is Free, if they lie too far apart.
func (m *Manager) level() (bool, error) {
	cold := m.foremost(scan.Mapped, func(count, best int) bool { return count < best })
	worn := m.foremost(scan.Free, func(count, best int) bool { return count > best })
	if cold < 0 || worn < 0 || m.blocks[worn].Count-m.blocks[cold].Count <= api.MaxWear {
		return false, nil
	}
	err := m.move(cold, worn)
	return err == nil, err
}

// move: what stands in one block goes to a Free one.
func (m *Manager) move(from, to int) error {
	if _, err := m.lay(to, m.copied(from)); err != nil {
		return err
	}
	return m.free(from)
}

// settle: a draft in a block that is taken, whose number is told.
func (m *Manager) settle(d draft) (int, error) {
	n, err := m.take()
	if err != nil {
		return n, err
	}
	return m.lay(n, d)
}

// lay: a draft in this Free block or, as long as one fails, in another that is taken; told is the number of the one that has it.
func (m *Manager) lay(n int, d draft) (int, error) {
	err := m.write(n, d)
	for errors.Is(err, api.EIO) {
		m.retire(n)
		if n, err = m.take(); err == nil {
			err = m.write(n, d)
		}
	}
	return n, err
}

// write: a draft in a Free block, which is Mapped as soon as all of it stands there.
func (m *Manager) write(n int, d draft) error {
	// Behind the greatest Seq comes 0: of two copies the old one counts then, until it is erased, and that is right, too.
	m.seq++
	image, _ := header.Mapping(header.Map{Leb: d.leb, Seq: m.seq, Pages: d.must}, m.Page())
	err := m.program(n, mapPage, image)
	for i := 0; err == nil && i < d.pages; i++ {
		err = m.transfer(n, i, d)
	}
	if err == nil {
		m.blocks[n] = scan.Block{State: scan.Mapped, Count: m.blocks[n].Count, Leb: d.leb, Used: d.pages, Seq: m.seq}
	}
	return err
}

// transfer: one page of a draft.
func (m *Manager) transfer(n, i int, d draft) error {
	data, err := d.page(i)
	if err != nil {
		return err
	}
	return m.program(n, firstPage+i, data)
}
