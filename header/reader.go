package header

import (
	"errors"

	"pumice/api"
	"pumice/bits"
)

var errNoImage = errors.New("no call makes such a page")

// wrong: what is not as it should be, and the error that this comes of.
type wrong struct {
	what  string
	cause error
}

func (w *wrong) Error() string { return w.what + ": " + w.cause.Error() }

func (w *wrong) Unwrap() error { return w.cause }

// errnoOf: what a call answers of an error.
func errnoOf(err error) api.Errno {
	if errors.Is(err, api.EINVAL) {
		return api.EINVAL
	}
	return api.OK
}

// reader: a payload that is taken apart from its beginning on. What is wrong first stays, so that it is asked for once, at the end.
type reader struct {
	rest []byte
	err  error
}

// open: a reader of the payload behind its mark, if b is a page's image.
func open(b []byte, mark byte) *reader {
	r := &reader{}
	// The size comes first, so that no more than a page's bytes are ever summed.
	r.note("size", checkPage(len(b)))
	if r.err != nil {
		return r
	}
	payload, size, ok := bits.Unframe(b)
	switch {
	case !ok:
		r.note("frame", errNoImage)
	case !bits.Blank(b[size:]):
		r.note("bytes behind the frame", errNoImage)
	default:
		r.rest = payload
		r.mark(mark)
	}
	return r
}

// note: keeps what is wrong, if nothing was till now.
func (r *reader) note(what string, err error) {
	if r.err == nil && err != nil {
		r.err = &wrong{what, err}
	}
}

// mark: takes the byte that tells what the payload is.
func (r *reader) mark(want byte) {
	if r.number(markBytes) != uint64(want) {
		r.note("mark", errNoImage)
	}
}

// number: takes a number of so many bytes.
func (r *reader) number(bytes int) uint64 {
	if r.err != nil {
		return 0
	}
	if len(r.rest) < bytes {
		r.note("number", errNoImage)
		return 0
	}
	n := bits.Get(r.rest[:bytes])
	r.rest = r.rest[bytes:]
	return n
}

// end: nothing may be left.
func (r *reader) end() {
	if len(r.rest) > 0 {
		r.note("end", errNoImage)
	}
}
