package scan

import (
	"iter"

	"pumice/api"
	"pumice/header"
	"pumice/nand"
)

// Pages of a block: two that tell of it, then those of the logical block.
const (
	countPage = iota
	mapPage
	firstPage
)

// sight: what a block's own pages tell, whatever stands in other blocks.
type sight struct {
	marked  bool
	blank   bool // all pages behind the first are erased
	counted bool // the first page is a Count's
	count   int
	mapped  bool // the second page is a Mapping's, of a Leb that the chip has
	mapping header.Map
	used    int
	closed  bool
}

// sights: of all blocks of a chip, in order.
func sights(c *nand.Chip) iter.Seq[sight] {
	return func(yield func(sight) bool) {
		for n := range c.Geometry().Blocks {
			if !yield(look(c, n)) {
				return
			}
		}
	}
}

// look: at one block. A header that can't be read has no bytes, so it is parsed as none.
func look(c *nand.Chip, block int) sight {
	first, _ := c.Read(block, countPage)
	second, _ := c.Read(block, mapPage)
	s := sight{marked: c.Bad(block), blank: c.Next(block) == mapPage}
	s.count, s.counted = header.ParseCount(first)
	s.mapping, s.mapped = header.ParseMapping(second)
	s.mapped = s.mapped && s.mapping.Leb < Lebs(c.Geometry())
	if s.mapped {
		s.used, s.closed = written(c, block)
	}
	return s
}

// written: how many of the logical block's pages are programmed and readable, without a gap, and whether the one behind them is unreadable.
func written(c *nand.Chip, block int) (int, bool) {
	// Next tells what was programmed: a page's bytes may be 0xff, as those of an erased one are.
	for page := firstPage; page < c.Next(block); page++ {
		if _, errno := c.Read(block, page); errno != api.OK {
			return page - firstPage, true
		}
	}
	return c.Next(block) - firstPage, false
}

// state: of a block whose logical block has no newer copy elsewhere. That a Mapping asks for no more Pages than a logical block has need not be asked: more can't be there.
func (s sight) state() int {
	switch {
	case s.marked:
		return Bad
	case s.counted && s.blank:
		return Free
	case s.counted && s.mapped && s.mapping.Pages <= s.used:
		return Mapped
	}
	return Spoilt
}

// block: what is told of it, with the Count that it has if its first page tells none.
func (s sight) block(mean int) Block {
	b := Block{State: s.state(), Count: mean}
	if s.counted {
		b.Count = s.count
	}
	switch b.State {
	case Bad:
		b.Count = 0
	case Mapped:
		b.Leb, b.Seq = s.mapping.Leb, s.mapping.Seq
		b.Used, b.Closed = s.used, s.closed
	}
	return b
}

// meanCount: of all Counts that are told, rounded down; 0, if none is.
func meanCount(all []sight) int {
	var sum, told int64
	for _, s := range all {
		if s.counted && !s.marked {
			sum += int64(s.count)
			told++
		}
	}
	if told == 0 {
		return 0
	}
	return int(sum / told)
}
