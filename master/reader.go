package master

import (
	"bytes"

	"pumice/api"
	"pumice/bits"
	"pumice/wbuf"
)

// reader: frames that are taken from the first on. What is wrong first stays, so that it is asked for once, at the end.
type reader struct {
	frames []wbuf.Frame
	err    error
}

// more: is there a frame that is to be taken yet?
func (r *reader) more() bool { return r.err == nil && len(r.frames) > 0 }

// next: takes a frame's payload; of none nothing, which is neither a superblock nor a record.
func (r *reader) next() []byte {
	if !r.more() {
		return nil
	}
	payload := r.frames[0].Payload
	r.frames = r.frames[1:]
	return payload
}

// wrong: keeps what is not as it should be, if all was till now.
func (r *reader) wrong(what string) {
	if r.err == nil {
		r.err = failed(what, api.EUCLEAN)
	}
}

// super: takes a frame that must be this superblock.
func (r *reader) super(want []byte) {
	if !bytes.Equal(r.next(), want) {
		r.wrong("superblock")
	}
}

// record: takes a frame that must be a record.
func (r *reader) record() Record {
	b := r.next()
	if len(b) < headBytes || len(b) > headBytes+maxText || b[0] != mark {
		r.wrong("record")
		return Record{}
	}
	return Record{Epoch: bits.Get(b[markBytes:headBytes]), Text: string(b[headBytes:])}
}
