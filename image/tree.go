package image

import "slices"

// Split: the slots in as few lists as may be, in order, the first ones with one more where it does not come out even.
func Split(l []Slot) [][]Slot {
	count := parts(len(l), Fan)
	lists := make([][]Slot, 0, count)
	rest := slices.Clone(l)
	for left := count; left > 0; left-- {
		size := parts(len(rest), left)
		// No list has room behind it: it is the next one's.
		lists = append(lists, rest[:size:size])
		rest = rest[size:]
	}
	return lists
}

// parts: how many parts of a size make n, the last of them perhaps not whole. (The size is not added first: the sum might leave the type's range.)
func parts(n, size int) int {
	if n%size == 0 {
		return n / size
	}
	return n/size + 1
}

// Levels: how many levels a tree of n keys has.
func Levels(n int) int {
	if n < 1 {
		return 0
	}
	levels := 1
	for n > Fan {
		n = parts(n, Fan)
		levels++
	}
	return levels
}

// Bound: how many bytes the frames of a tree of these keys have together.
func Bound(keys []string) int {
	if !rise(keys) {
		return 0
	}
	lists := Split(bare(keys))
	sum := together(lists)
	for len(lists) > 1 {
		lists = Split(bare(firsts(lists)))
		sum += together(lists)
	}
	return sum
}

// rise: are these keys, each greater than the one ahead?
func rise(keys []string) bool {
	ahead := ""
	for _, key := range keys {
		if !follows(ahead, key) {
			return false
		}
		ahead = key
	}
	return true
}

// bare: slots with these keys; places do not change how many bytes there are.
func bare(keys []string) []Slot {
	l := make([]Slot, 0, len(keys))
	for _, key := range keys {
		l = append(l, Slot{Key: key})
	}
	return l
}

// firsts: the first key of each list; Split makes none without slots.
func firsts(lists [][]Slot) []string {
	keys := make([]string, 0, len(lists))
	for _, l := range lists {
		keys = append(keys, l[0].Key)
	}
	return keys
}

// together: how many bytes the frames of a level's nodes have.
func together(lists [][]Slot) int {
	sum := 0
	for _, l := range lists {
		sum += framed(l)
	}
	return sum
}
