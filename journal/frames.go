package journal

import (
	"slices"

	"pumice/api"
	"pumice/bits"
)

// A head's payload: its mark, the epoch, the segment's number.
const (
	headMark    = 'H'
	epochBytes  = 8
	numberBytes = 2
	epochAt     = 1
	numberAt    = epochAt + epochBytes
	headBytes   = numberAt + numberBytes
)

// A node's payload: its mark, the flags, the Key's length, the Key, the Value.
const (
	nodeMark = 'N'
	flagsAt  = 1
	lengthAt = 2
	keyAt    = 3
	goneFlag = 1
	lastFlag = 2
)

// frameBytes: bytes of a frame ahead of its payload, as bits lays them.
const frameBytes = 6

// Right: may a group be?
func Right(g []api.Node) api.Errno {
	if len(g) < 1 || len(g) > api.MaxGroup {
		return api.EINVAL
	}
	total := 0
	for i, n := range g {
		if !right(n) || named(g[:i], n.Key) {
			return api.EINVAL
		}
		total += frameBytes + size(n)
	}
	if total > api.MaxGroupBytes {
		return api.EINVAL
	}
	return api.OK
}

// right: may a group have this node?
func right(n api.Node) bool {
	most := api.MaxValue
	if n.Gone {
		most = 0
	}
	return len(n.Key) >= 1 && len(n.Key) <= api.MaxKey && len(n.Value) <= most
}

// named: has one of the nodes this key?
func named(g []api.Node, key string) bool {
	return slices.ContainsFunc(g, func(n api.Node) bool { return n.Key == key })
}

// size: the bytes of a node's payload.
func size(n api.Node) int { return keyAt + len(n.Key) + len(n.Value) }

// packed: a node's payload.
func packed(n api.Node, last bool) []byte {
	flags := byte(0)
	if n.Gone {
		flags += goneFlag
	}
	if last {
		flags += lastFlag
	}
	b := append([]byte{nodeMark, flags, byte(len(n.Key))}, n.Key...)
	return append(b, n.Value...)
}

// unpacked: the node whose payload this is, and whether it is the last of its group; of bytes that are no node's payload false.
func unpacked(b []byte) (n api.Node, last, ok bool) {
	if len(b) < keyAt || b[0] != nodeMark || int(b[lengthAt]) > len(b)-keyAt {
		return api.Node{}, false, false
	}
	valueAt := keyAt + int(b[lengthAt])
	gone, last, ok := flagged(b[flagsAt])
	n = api.Node{Key: string(b[keyAt:valueAt]), Value: string(b[valueAt:]), Gone: gone}
	if !ok || !right(n) {
		return api.Node{}, false, false
	}
	return n, last, true
}

// flagged: what a node's flags say; ok: a node may have them.
func flagged(flags byte) (gone, last, ok bool) {
	switch flags {
	case lastFlag + goneFlag:
		last = true
		fallthrough
	case goneFlag:
		return true, last, true
	case lastFlag:
		last = true
		fallthrough
	case 0:
		return false, last, true
	}
	return false, false, false
}

// head: the payload of a segment's head.
func head(epoch uint64, number int) []byte {
	b := append([]byte{headMark}, bits.Put(epoch, epochBytes)...)
	return append(b, bits.Put(uint64(number), numberBytes)...)
}

// headed: the number of the segment of an epoch whose head this page begins with; ok: it does. (A head is shorter than any page.)
func headed(page []byte, epoch uint64) (number int, ok bool) {
	b, _, _ := bits.Unframe(page)
	if len(b) != headBytes || b[0] != headMark || bits.Get(b[epochAt:numberAt]) != epoch {
		return 0, false
	}
	return int(bits.Get(b[numberAt:])), true
}
