// Package bits is layer 1: numbers as bytes, a check sum, frames. See shared/doc/01-bits.md.
package bits

import "pumice/api"

// MaxFrame: the most bytes of a payload.
const MaxFrame = 1024

const (
	maxNumber = 8                    // bytes of the widest number
	sizeBytes = 2                    // bytes of a frame that tell its payload's size
	sumBytes  = 4                    // bytes of a frame that tell its payload's sum
	headBytes = sizeBytes + sumBytes // bytes of a frame ahead of its payload
	erased    = 0xff                 // what a byte of an erased page reads as
	allOnes   = 0xffffffff
	reflected = 0xedb88320 // 0x04c11db7 with its bits turned round, since bytes go in lowest bit first
	maxRound  = 1 << 62
	maxAnswer = 1<<31 - 1 // bytes of one answer, as far as the document promises anything
)

// Put: the lowest bytes of n, the lowest first.
func Put(n uint64, bytes int) []byte {
	out := make([]byte, min(max(bytes, 0), maxNumber))
	for i := range out {
		out[i] = byte(n)
		n >>= 8
	}
	return out
}

// Get: the number that the first eight bytes make, the lowest first.
func Get(b []byte) uint64 {
	n := uint64(0)
	switch min(len(b), maxNumber) {
	case 8:
		n |= uint64(b[7]) << 56
		fallthrough
	case 7:
		n |= uint64(b[6]) << 48
		fallthrough
	case 6:
		n |= uint64(b[5]) << 40
		fallthrough
	case 5:
		n |= uint64(b[4]) << 32
		fallthrough
	case 4:
		n |= uint64(b[3]) << 24
		fallthrough
	case 3:
		n |= uint64(b[2]) << 16
		fallthrough
	case 2:
		n |= uint64(b[1]) << 8
		fallthrough
	case 1:
		n |= uint64(b[0])
	}
	return n
}

// Sum: the CRC-32 of Ethernet, gzip and PNG.
func Sum(b []byte) uint32 {
	sum := uint32(allOnes)
	for _, x := range b {
		sum = step(sum ^ uint32(x))
	}
	return ^sum
}

// step: the sum behind one byte that was laid into its lowest bits.
func step(sum uint32) uint32 {
	for range 8 {
		if sum&1 == 1 {
			sum = sum>>1 ^ reflected
		} else {
			sum >>= 1
		}
	}
	return sum
}

// Frame: the payload's size, its sum, the payload.
func Frame(payload []byte) ([]byte, api.Errno) {
	if !framed(len(payload)) {
		return nil, api.EINVAL
	}
	frame := make([]byte, 0, headBytes+len(payload))
	frame = append(frame, Put(uint64(len(payload)), sizeBytes)...)
	frame = append(frame, Put(uint64(Sum(payload)), sumBytes)...)
	return append(frame, payload...), api.OK
}

// Unframe: the payload of the frame that b begins with, and how many bytes the frame has.
func Unframe(b []byte) ([]byte, int, bool) {
	if len(b) < headBytes {
		return nil, 0, false
	}
	size := int(Get(b[:sizeBytes]))
	if !framed(size) || size > len(b)-headBytes {
		return nil, 0, false
	}
	payload := b[headBytes : headBytes+size]
	if uint64(Sum(payload)) != Get(b[sizeBytes:headBytes]) {
		return nil, 0, false
	}
	// A copy, so that no one writes through the answer into the bytes that came in.
	return Fill(payload, size), headBytes + size, true
}

// framed: may a payload have so many bytes?
func framed(size int) bool { return size >= 1 && size <= MaxFrame }

// Blank: are all bytes as an erase leaves them?
func Blank(b []byte) bool {
	for _, x := range b {
		if x != erased {
			return false
		}
	}
	return true
}

// Fill: the first n bytes, filled up to n as an erase leaves bytes.
func Fill(b []byte, n int) []byte {
	// Beyond the document's bound nothing is promised: an empty answer rather than a panic for want of memory.
	if n < 0 || n > maxAnswer {
		return nil
	}
	out := make([]byte, n)
	for i := copy(out, b); i < n; i++ {
		out[i] = erased
	}
	return out
}

// Round: n, or the next greater number that unit divides.
func Round(n, unit int) int {
	if unit < 1 {
		return n
	}
	if n < 0 {
		return 0
	}
	rest := n % unit
	if rest == 0 {
		return n
	}
	// The gap is held against what is left, since the sum itself might leave the type's range.
	gap := unit - rest
	if gap > maxRound-n {
		return n
	}
	return n + gap
}
