package store

import (
	"errors"
	"math"
	"slices"

	"pumice/api"
	"pumice/image"
	"pumice/props"
	"pumice/space"
)

// What a logical block is taken for, by the book's numbers.
const (
	forMaster = iota + 1
	forJournal
	forIndex
)

// loss: so many bytes at a log's end may stay empty, since the next frame has no room there. It is P1204's number for logs of the index; a segment loses less: its head, a byte of filling for each page, and one byte less than the longest node's frame has.
const loss = 610

// logs: how many logs so many bytes of frames take on a chip, at the most.
func logs(g api.Geometry, bytes int) int {
	if bytes == 0 {
		return 0
	}
	return bytes/(space.Bytes(g)-loss) + 1
}

// kept: so many logical blocks are always free, but within a checkpoint, so that one can be made at any time: one that moves all nodes, and writes the whole index, takes no more. (The frames of both together have no more bytes than the nodes cost; and the last log of each may be short.)
func kept(g api.Geometry) int { return space.Limit(g)/(space.Bytes(g)-loss) + 2 }

// growth: so many logical blocks are to be free behind a checkpoint that makes room: beside those that are kept half as many as the greatest one brings at the least. (That is at least one, on every chip.)
func growth(g api.Geometry) int {
	others := space.Lebs(g) - 1 // all but the master's
	return kept(g) + (others-2*kept(g))/2
}

// frees: how many logical blocks are free.
func (s *Store) frees() int { return len(s.book.Frees()) }

// slots: all of the index.
func (s *Store) slots() ([]image.Slot, error) {
	slots, errno := s.index.Range("", "", math.MaxInt)
	return slots, failed("index", errno)
}

// enlist: the book of a chip on which the index stands in these logical blocks, and the journal in those segments, and wherever the index leads; and what the map costs.
func (s *Store) enlist(lebs, segments []int) error {
	book, errno := props.New(space.Lebs(s.geometry()), space.Bytes(s.geometry()))
	if errno != api.OK {
		return failed("book", errno)
	}
	s.book = book
	slots, err := s.slots()
	if err == nil {
		err = errors.Join(s.take(forMaster, home), s.take(forIndex, lebs...), s.take(forJournal, segments...))
	}
	for _, slot := range slots {
		if err != nil {
			return err
		}
		err = s.enter(slot)
	}
	return err
}

// take: these logical blocks are for that use; they may be so already.
func (s *Store) take(use int, lebs ...int) error {
	for _, leb := range lebs {
		b, errno := s.book.Block(leb)
		if errno == api.OK && b.Use != use {
			errno = s.book.Take(leb, use)
		}
		if errno != api.OK {
			return failed("book", errno)
		}
	}
	return nil
}

// enter: the book and the cost tell of one node more.
func (s *Store) enter(slot image.Slot) error {
	if size := valueBytes(slot); size < 0 || size > api.MaxValue {
		return failed("node", api.EUCLEAN)
	}
	if err := s.take(forJournal, slot.At.Leb); err != nil {
		return err
	}
	s.cost += cost(slot)
	return failed("book", s.book.Use(slot.At.Leb, slot.At.Size))
}

// strike: the book and the cost tell of a key's node no more, if it has one.
func (s *Store) strike(key string) error {
	at, ok, errno := s.index.Get(key)
	if errno != api.OK || !ok {
		return failed("index", errno)
	}
	s.cost -= cost(image.Slot{Key: key, At: at})
	return failed("book", s.book.Kill(at.Leb, at.Size))
}

// release: the logical blocks to which nothing leads any more are free.
func (s *Store) release() error {
	lebs, errno := s.index.Lebs()
	if errno != api.OK {
		return failed("index", errno)
	}
	needed := append(lebs, s.journal.Segments()...)
	for _, leb := range append(s.book.Of(forIndex), s.book.Of(forJournal)...) {
		if !slices.Contains(needed, leb) {
			s.book.Free(leb) // EBUSY of one with live nodes: it stays
		}
	}
	return nil
}

// tidy: what stands in free logical blocks goes: a checkpoint that was cut may have left a segment of its epoch there, which must not be taken for one of the next checkpoint's epoch: that has the same number. (Where the chip is spent there will be none.)
func (s *Store) tidy() error {
	for _, leb := range s.book.Frees() {
		err := failed("free block", s.m.Unmap(leb))
		if errors.Is(err, api.EROFS) {
			return nil
		}
		if err != nil {
			return err
		}
	}
	return nil
}
