package wbuf

import "pumice/bits"

const (
	headBytes = 6       // bytes of a frame ahead of its payload, as bits lays them
	maxLog    = 1 << 30 // bytes of the greatest log that Fits tells of
)

// Fits: would frames fit?
func Fits(sizes []int, from, page, pages int) bool {
	// The product is made only where it stays in the type's range.
	if page < 2 || pages < 1 || page > maxLog/pages || from < 0 || from > page*pages {
		return false
	}
	at := begin(from, page)
	for _, size := range sizes {
		if size < 1 || size > bits.MaxFrame || headBytes+size > page*pages-at {
			return false
		}
		at = begin(at+headBytes+size, page)
	}
	return true
}

// begin: where a frame begins, if all up to a place is taken: never on a page's last byte.
func begin(at, page int) int {
	if at%page == page-1 {
		return at + 1
	}
	return at
}
