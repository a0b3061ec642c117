package props

import (
	"cmp"
	"slices"
)

// Frees: the free blocks, in order.
func (b *Book) Frees() []int {
	return b.those(func(x Block) bool { return x.free() })
}

// Least: the first free block, if there is one.
func (b *Book) Least() (int, bool) {
	l := b.Frees()
	if len(l) == 0 {
		return 0, false
	}
	return l[0], true
}

// Of: the blocks that are taken for that use, in order.
func (b *Book) Of(use int) []int {
	return b.those(func(x Block) bool { return x.takenFor(use) })
}

// Victims: the closed blocks of that use with dirty bytes, those with more of them first.
func (b *Book) Victims(use int) []int {
	l := b.those(func(x Block) bool { return x.takenFor(use) && x.Closed && x.dirty() > 0 })
	// A stable sort, since blocks with as many dirty bytes stay in the order of their numbers.
	slices.SortStableFunc(l, func(one, other int) int {
		return cmp.Compare(b.blocks[other].dirty(), b.blocks[one].dirty())
	})
	return l
}

// Totals: how many blocks are free, and the sums of the used, the live and the dirty bytes.
func (b *Book) Totals() (free, used, live, dirty int) {
	if b == nil {
		return 0, 0, 0, 0
	}
	for _, x := range b.blocks {
		used += x.Used
		live += x.Live
		dirty += x.dirty()
	}
	return len(b.Frees()), used, live, dirty
}

// those: the blocks that are so, in order.
func (b *Book) those(so func(Block) bool) []int {
	if b == nil {
		return nil
	}
	l := []int{}
	for leb, x := range b.blocks {
		if so(x) {
			l = append(l, leb)
		}
	}
	return l
}

// takenFor: is it for that use? A free one is for none, whatever is asked.
func (x Block) takenFor(use int) bool { return !x.free() && x.Use == use }
