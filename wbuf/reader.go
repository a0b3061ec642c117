package wbuf

import (
	"iter"

	"pumice/bits"
)

// markBytes: so many bytes 0xff where a frame would begin say that the rest of the page is filling.
const markBytes = 2

// reader: goes from frame to frame over the bytes of whole pages.
type reader struct {
	data   []byte
	page   int
	at     int  // where the next frame would begin
	spoilt bool // there stands neither a frame nor filling
}

// frames: from the first on, one by one, as far as they are whole.
func (r *reader) frames() iter.Seq[Frame] {
	return func(yield func(Frame) bool) {
		for r.at < len(r.data) && !r.spoilt {
			if bits.Blank(r.data[r.at : r.at+markBytes]) {
				r.skip()
			} else if f, ok := r.next(); ok && !yield(f) {
				return
			}
		}
	}
}

// skip: the rest of a page, which must be filling.
func (r *reader) skip() {
	end := bits.Round(r.at+1, r.page)
	if !bits.Blank(r.data[r.at:end]) {
		r.spoilt = true
		return
	}
	r.at = end
}

// next: a frame, with the byte of filling that may stand behind it. (It is whole even if that byte is another one.)
func (r *reader) next() (Frame, bool) {
	_, size, ok := bits.Unframe(r.data[r.at:])
	pos, end := r.at, r.at+size
	r.at = begin(end, r.page)
	r.spoilt = !ok || !bits.Blank(r.data[end:r.at])
	if !ok {
		return Frame{}, false
	}
	return Frame{pos, r.data[pos+headBytes : end : end]}, true
}
