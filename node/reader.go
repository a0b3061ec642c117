package node

import "pumice/bits"

// reader: bytes that are taken from their beginning on. That some were lacking stays, so that it is asked for once, at the end.
type reader struct {
	rest  string
	short bool
}

// text: takes so many bytes.
func (r *reader) text(size int) string {
	if len(r.rest) < size {
		r.short = true
		return ""
	}
	text := r.rest[:size]
	r.rest = r.rest[size:]
	return text
}

// number: takes a number of so many bytes, the lowest first.
func (r *reader) number(size int) uint64 { return bits.Get([]byte(r.text(size))) }

// all: takes what is left.
func (r *reader) all() string { return r.text(len(r.rest)) }

// done: was there all that was asked for, and nothing more?
func (r *reader) done() bool { return !r.short && r.rest == "" }

// keyReader: a key's numbers have their higher byte first.
type keyReader struct{ reader }

func readKey(key string) *keyReader { return &keyReader{reader{rest: key}} }

// high: takes an inode's or a block's number.
func (k *keyReader) high() int {
	n := 0
	for _, x := range []byte(k.text(highBytes)) {
		n = n<<8 | int(x)
	}
	return n
}

// kind: takes the byte that tells the key's kind.
func (k *keyReader) kind() int { return int(k.number(kindBytes)) }

// valueReader: a value is fields of fixed sizes.
type valueReader struct{ reader }

func readValue(value string) *valueReader { return &valueReader{reader{rest: value}} }

// field: takes the next one; none has more than four bytes.
func (v *valueReader) field(size int) int { return int(v.number(size)) }

// payloadReader: a payload begins with a byte that tells what it is, and its texts stand behind their sizes.
type payloadReader struct{ reader }

func readPayload(b []byte) *payloadReader { return &payloadReader{reader{rest: string(b)}} }

// tag: takes the byte that tells what the payload is.
func (p *payloadReader) tag() byte { return byte(p.number(tagBytes)) }

// counted: takes a size of so many bytes, and the text behind it.
func (p *payloadReader) counted(bytes int) string { return p.text(int(p.number(bytes))) }
