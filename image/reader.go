package image

import "pumice/bits"

// reader: bytes that are taken from their beginning on. That some were lacking stays, so that it is asked for once, at the end.
type reader struct {
	rest  string
	short bool
}

// text: takes so many bytes.
func (r *reader) text(size int) string {
	if len(r.rest) < size {
		r.short = true
		return ""
	}
	text := r.rest[:size]
	r.rest = r.rest[size:]
	return text
}

// number: takes a number of so many bytes; none has more than three.
func (r *reader) number(size int) int { return int(bits.Get([]byte(r.text(size)))) }

// slot: takes a key behind its size, and a place.
func (r *reader) slot() Slot {
	key := r.text(r.number(keyBytes))
	leb, pos, size := r.number(lebBytes), r.number(posBytes), r.number(sizeBytes)
	return Slot{Key: key, At: Place{Leb: leb, Pos: pos, Size: size}}
}

// done: was there all that was asked for, and nothing more?
func (r *reader) done() bool { return !r.short && r.rest == "" }
