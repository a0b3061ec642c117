package props

import (
	"iter"
	"strconv"
	"strings"

	"pumice/api"
)

const (
	lineEnd   = "\n"
	blank     = " "
	closed    = "closed"
	headWords = 2 // n size
	rowWords  = 4 // leb use used live
)

// row: a line's numbers, and whether it says that a block is closed.
type row struct {
	numbers []int
	closed  bool
}

// Text: the book as lines.
func (b *Book) Text() string {
	if b == nil {
		return ""
	}
	var text strings.Builder
	text.WriteString(line(len(b.blocks), b.size) + lineEnd)
	for leb, x := range b.blocks {
		if x.free() {
			continue
		}
		text.WriteString(line(leb, x.Use, x.Used, x.Live))
		if x.Closed {
			text.WriteString(blank + closed)
		}
		text.WriteString(lineEnd)
	}
	return text.String()
}

// line: numbers with blanks between them.
func line(numbers ...int) string {
	words := make([]string, len(numbers))
	for i, n := range numbers {
		words[i] = strconv.Itoa(n)
	}
	return strings.Join(words, blank)
}

// Parse: the book whose Text is just this.
func Parse(text string) (*Book, api.Errno) {
	b, ok := read(text)
	// The same book can be told in many ways (leading noughts, signs, other blanks, another order), but just one of them is its Text.
	if !ok || b.Text() != text {
		return nil, api.EINVAL
	}
	return b, api.OK
}

// read: the book that a text tells, in whatever way.
func read(text string) (*Book, bool) {
	var b *Book
	for piece := range pieces(text, lineEnd) {
		r, ok := readRow(piece)
		switch {
		case !ok:
			return nil, false
		case b == nil:
			b, ok = begun(r)
		default:
			ok = b.enter(r)
		}
		if !ok {
			return nil, false
		}
	}
	return b, b != nil
}

// readRow: what stands in a line, if no line of a book has more.
func readRow(text string) (row, bool) {
	r := row{}
	for word := range pieces(text, blank) {
		if word == closed {
			r.closed = true
			continue
		}
		n, err := strconv.Atoi(word)
		if err != nil || len(r.numbers) == rowWords {
			return row{}, false
		}
		r.numbers = append(r.numbers, n)
	}
	return r, true
}

// pieces: what stands between a text's ends, that of no byte left out.
func pieces(text, end string) iter.Seq[string] {
	return func(yield func(string) bool) {
		piece, rest, more := "", text, true
		for more {
			piece, rest, more = strings.Cut(rest, end)
			if piece != "" && !yield(piece) {
				return
			}
		}
	}
}

// begun: the book of which this is the first line.
func begun(r row) (*Book, bool) {
	if len(r.numbers) != headWords {
		return nil, false
	}
	b, errno := New(r.numbers[0], r.numbers[1])
	return b, errno == api.OK
}

// enter: takes the block that a line tells, as it was; false, if it can't be so.
func (b *Book) enter(r row) bool {
	if len(r.numbers) != rowWords {
		return false
	}
	leb, use, used, live := r.numbers[0], r.numbers[1], r.numbers[2], r.numbers[3]
	if b.Take(leb, use) != api.OK || b.Use(leb, used) != api.OK {
		return false
	}
	// A difference of numbers from 0 on, so that it can't leave an int's range.
	if live < 0 || b.Kill(leb, used-live) != api.OK {
		return false
	}
	return !r.closed || b.Close(leb) == api.OK
}
