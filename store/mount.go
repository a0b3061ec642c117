package store

import (
	"pumice/api"
	"pumice/bits"
	"pumice/ebm"
	"pumice/image"
	"pumice/index"
	"pumice/journal"
	"pumice/master"
	"pumice/nand"
	"pumice/scan"
)

// firstEpoch: of a store that was just formatted.
const firstEpoch = 1

// The text of the master's record: the place of the index' root.
const (
	lebBytes  = 2
	posBytes  = 3
	sizeBytes = 2
	posAt     = lebBytes
	sizeAt    = posAt + posBytes
	rootBytes = sizeAt + sizeBytes
)

// packed: a root as a record's text.
func packed(root image.Place) string {
	b := bits.Put(uint64(root.Leb), lebBytes)
	b = append(b, bits.Put(uint64(root.Pos), posBytes)...)
	return string(append(b, bits.Put(uint64(root.Size), sizeBytes)...))
}

// unpacked: the root that a record's text tells.
func unpacked(text string) (image.Place, bool) {
	if len(text) != rootBytes {
		return image.Place{}, false
	}
	b := []byte(text)
	return image.Place{
		Leb:  int(bits.Get(b[:posAt])),
		Pos:  int(bits.Get(b[posAt:sizeAt])),
		Size: int(bits.Get(b[sizeAt:])),
	}, true
}

func format(c *nand.Chip) (*Store, error) {
	if err := forget(c); err != nil {
		return nil, err
	}
	m, errno := ebm.Format(c)
	if errno != api.OK {
		return nil, failed("chip", errno)
	}
	x, errno := master.Create(m, master.Record{Epoch: firstEpoch, Text: packed(image.Place{})})
	if errno != api.OK {
		return nil, failed("master", errno)
	}
	s := over(m, x, index.New(m))
	s.journal = journal.New(m, firstEpoch)
	return s, s.enlist(nil, nil)
}

// forget: a master that stands on the chip goes ahead of all else, so that a cut never leaves a store of which something is missing.
func forget(c *nand.Chip) error {
	blocks, errno := scan.Scan(c)
	if errno != api.OK || scan.Find(blocks, home) < 0 {
		return failed("chip", errno)
	}
	m, errno := ebm.Attach(c)
	if errno != api.OK {
		return failed("chip", errno)
	}
	return failed("master", m.Unmap(home))
}

func mount(c *nand.Chip) (*Store, error) {
	m, errno := ebm.Attach(c)
	if errno != api.OK {
		return nil, failed("chip", errno)
	}
	x, errno := master.Open(m)
	if errno != api.OK {
		return nil, failed("master", errno)
	}
	root, ok := unpacked(x.Record().Text)
	if !ok {
		return nil, failed("master", api.EUCLEAN)
	}
	tree, errno := index.Open(m, root)
	if errno != api.OK {
		return nil, failed("index", errno)
	}
	s := over(m, x, tree)
	return s, s.load()
}

// load: the map as the index has it, with the groups of its epoch done to it.
func (s *Store) load() error {
	// What the index has on the chip is asked first: it is needed there, also where a group changes it in memory.
	lebs, errno := s.index.Lebs()
	if errno != api.OK {
		return failed("index", errno)
	}
	groups, segments, errno := journal.Replay(s.m, s.epoch)
	if errno != api.OK {
		return failed("journal", errno)
	}
	for _, g := range groups {
		if err := s.replay(g); err != nil {
			return err
		}
	}
	if err := s.enlist(lebs, segments); err != nil {
		return err
	}
	s.behind = len(groups) > 0
	if len(segments) == 0 {
		s.journal = journal.New(s.m, s.epoch)
	}
	return s.tidy()
}

// replay: the index leads to a group's nodes.
func (s *Store) replay(g journal.Group) error {
	for i, n := range g.Nodes {
		if err := s.lead(slotOf(n, g.Places[i]), n.Gone); err != nil {
			return err
		}
	}
	return nil
}
