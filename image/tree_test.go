package image

import (
	"fmt"
	"math"
	"math/rand"
	"slices"
	"strings"
	"testing"

	"pumice/api"
	"pumice/btree"
)

// sizes: how many slots each list has.
func sizes(lists [][]Slot) []int {
	var out []int
	for _, l := range lists {
		out = append(out, len(l))
	}
	return out
}

// F10.3: Split, P1003

func TestSplit(t *testing.T) {
	for _, c := range []struct {
		count int
		want  []int
	}{
		{0, nil}, {1, []int{1}}, {2, []int{2}}, {7, []int{7}}, {8, []int{8}}, {9, []int{5, 4}}, {10, []int{5, 5}}, {11, []int{6, 5}},
		{15, []int{8, 7}}, {16, []int{8, 8}}, {17, []int{6, 6, 5}}, {18, []int{6, 6, 6}}, {19, []int{7, 6, 6}}, {24, []int{8, 8, 8}}, {25, []int{7, 6, 6, 6}},
		{65, []int{8, 8, 7, 7, 7, 7, 7, 7, 7}},
	} {
		is(t, fmt.Sprint("Split of ", c.count), sizes(Split(many(c.count, 4))), c.want)
	}
	is(t, "Split of nil", len(Split(nil)), 0)
	is(t, "Split of an empty list", len(Split([]Slot{})), 0)
}

func TestSplitLosesAndTurnsNothing(t *testing.T) {
	for count := range 700 {
		splitHeld(t, many(count, 4))
	}
	for _, count := range []int{4095, 4096, 4097, 100003} {
		splitHeld(t, many(count, 4))
	}
}

// splitHeld: Split of these slots is as the chapter says.
func splitHeld(t *testing.T, l []Slot) {
	t.Helper()
	lists := Split(l)
	if want := (len(l) + 7) / 8; len(lists) != want {
		t.Errorf("Split of %d: %d lists, not %d", len(l), len(lists), want)
	}
	if got := slices.Concat(lists...); !slices.Equal(got, l) {
		t.Errorf("Split of %d loses or turns some", len(l))
	}
	for n, one := range lists {
		if len(one) < 1 || len(one) > 8 {
			t.Errorf("Split of %d: the list %d has %d", len(l), n, len(one))
		}
		if n > 0 && len(lists[n-1]) < len(one) || len(one) < len(lists[0])-1 {
			t.Errorf("Split of %d: %v", len(l), sizes(lists))
			return
		}
	}
}

// No slot is asked what it is: Split parts whatever it is given.
func TestSplitOfSlotsThatAreNotRight(t *testing.T) {
	for count := range 40 {
		var l []Slot
		for n := range count {
			l = append(l, Slot{Key: strings.Repeat("k", 100-n), At: Place{-n, math.MaxInt, math.MinInt}})
		}
		splitHeld(t, l)
		splitHeld(t, make([]Slot, count))
	}
}

func TestNoListOfASplitIsWrittenByAnother(t *testing.T) {
	for _, count := range []int{1, 8, 9, 17, 100} {
		for n := range (count + 7) / 8 {
			lists := Split(many(count, 4))
			longer := append(lists[n], Slot{Key: "new"}, Slot{Key: "newer"})
			is(t, "the list that was appended to", longer[len(longer)-1].Key, "newer")
			is(t, "all lists behind an append", slices.Concat(lists...), many(count, 4))
			whole := lists[n][:cap(lists[n])]
			clear(whole)
			for other := range lists {
				if other != n {
					is(t, "another list behind a clear", slices.Index(lists[other], Slot{}), -1)
				}
			}
		}
	}
}

func TestSplitIsNewMemory(t *testing.T) {
	for _, count := range []int{1, 5, 8, 9, 30} {
		room := many(count+20, 4)
		l := room[:count]
		lists := Split(l)
		is(t, "what was handed in", room, many(count+20, 4))
		for n := range lists {
			_ = append(lists[n], make([]Slot, 20)...)
			clear(lists[n][:cap(lists[n])])
		}
		clear(lists[:cap(lists)])
		is(t, "what was handed in, behind what the caller wrote", room, many(count+20, 4))
		lists = Split(l)
		clear(room)
		is(t, "the lists behind what the caller wrote", slices.Concat(lists...), many(count, 4))
	}
}

// F10.3: Levels

func TestLevels(t *testing.T) {
	for n, want := range map[int]int{
		0: 0, -1: 0, -8: 0, math.MinInt: 0, 1: 1, 2: 1, 7: 1, 8: 1, 9: 2, 63: 2, 64: 2, 65: 3, 511: 3, 512: 3, 513: 4,
		1<<31 - 1: 11, math.MaxInt: 21, math.MaxInt - 1: 21,
	} {
		is(t, fmt.Sprint("Levels of ", n), Levels(n), want)
	}
	full := 1
	for levels := 1; levels <= 20; levels++ {
		full *= 8
		is(t, fmt.Sprint("Levels of ", full), Levels(full), levels)
		is(t, fmt.Sprint("Levels of one more than ", full), Levels(full+1), levels+1)
		is(t, fmt.Sprint("Levels of one less than ", full), Levels(full-1), levels)
	}
}

// treeOf: the images of a tree whose nodes are made by Split, level by level, from the leaves on.
func treeOf(keys []string) [][]Image {
	var rows [][]Image
	row := slotsOf(keys...)
	for len(row) > 0 {
		lists := Split(row)
		var images []Image
		row = nil
		for _, l := range lists {
			images = append(images, Image{Level: len(rows), Slots: l})
			row = append(row, Slot{Key: l[0].Key})
		}
		rows = append(rows, images)
		if len(images) == 1 {
			return rows
		}
	}
	return rows
}

// keysOf: so many keys that rise, of so many bytes.
func keysOf(count, size int) []string {
	var keys []string
	for n := range count {
		keys = append(keys, numbered(n, size))
	}
	return keys
}

func TestLevelsAreThoseOfATree(t *testing.T) {
	for n := range 1200 {
		is(t, fmt.Sprint("Levels of ", n), Levels(n), len(treeOf(keysOf(n, 4))))
	}
}

func TestTreesOfSplitsAreSound(t *testing.T) {
	for n := 1; n < 700; n++ {
		rows := treeOf(keysOf(n, 4))
		slices.Reverse(rows)
		var shapes []btree.Shape
		for _, i := range slices.Concat(rows...) {
			s := btree.Shape{Level: i.Level}
			for _, slot := range i.Slots {
				s.Keys = append(s.Keys, slot.Key)
			}
			shapes = append(shapes, s)
		}
		is(t, fmt.Sprint("a tree of ", n), btree.Sound(shapes, Fan), true)
	}
}

// F10.3: Bound, P1004

func TestBound(t *testing.T) {
	is(t, "Bound of nil", Bound(nil), 0)
	is(t, "Bound of an empty list", Bound([]string{}), 0)
	is(t, "Bound of one key", Bound([]string{"a"}), 18)
	is(t, "Bound of one long key", Bound([]string{strings.Repeat("k", 64)}), 81)
	is(t, "Bound of two keys", Bound([]string{"a", "bc"}), 9+9+10)
	is(t, "Bound of a full leaf", Bound(keysOf(8, 64)), 585)
	// Leaves of 5 and 4 keys, and a root with the first and the sixth.
	is(t, "Bound of nine keys", Bound([]string{"a", "b", "c", "d", "e", "fgh", "g", "h", "i"}), 9+5*9+9+11+3*9+9+9+11)
}

func TestBoundIsTheSumOfAllFrames(t *testing.T) {
	chance := rand.New(rand.NewSource(103))
	for n := range 700 {
		var keys []string
		for k := range n {
			keys = append(keys, numbered(k, 4+chance.Intn(61)))
		}
		sum := 0
		for _, i := range slices.Concat(treeOf(keys)...) {
			is(t, "Right", Right(i), true)
			sum += Size(i)
		}
		is(t, fmt.Sprint("Bound of ", n), Bound(keys), sum)
	}
}

func TestBoundIsBounded(t *testing.T) {
	for n := range 1200 {
		if got, most := Bound(keysOf(n, 64)), (n+Levels(n))*(17+api.MaxKey)+9*n; got > most {
			t.Errorf("Bound of %d keys: %d, above %d", n, got, most)
		}
	}
	if got, most := Bound(keysOf(50000, 64)), (50000+Levels(50000))*81+9*50000; got == 0 || got > most {
		t.Errorf("Bound of 50000 keys: %d, above %d", got, most)
	}
}

func TestBoundOfKeysThatDoNotRise(t *testing.T) {
	for _, keys := range fallingKeys() {
		is(t, fmt.Sprintf("Bound of %.8q", keys), Bound(keys), 0)
	}
	for n := 1; n < 100; n++ {
		keys := keysOf(100, 5)
		keys[n] = keys[n-1]
		is(t, fmt.Sprint("Bound of keys that are alike at ", n), Bound(keys), 0)
		keys = keysOf(100, 5)
		keys[n], keys[n-1] = keys[n-1], keys[n]
		is(t, fmt.Sprint("Bound of keys that fall at ", n), Bound(keys), 0)
	}
	is(t, "Bound of keys that rise by a byte above 127", Bound([]string{"\x7f", "\x80", "\xff"}), 9+3*9)
}

func TestBoundOfNoKeys(t *testing.T) {
	is(t, "Bound of a key of no bytes", Bound([]string{""}), 0)
	is(t, "Bound of a key that is too long", Bound([]string{strings.Repeat("k", 65)}), 0)
	for n := range 100 {
		keys := keysOf(100, 5)
		keys[n] = ""
		is(t, fmt.Sprint("Bound with a key of no bytes at ", n), Bound(keys), 0)
		keys[n] = numbered(n, 65)
		is(t, fmt.Sprint("Bound with a key that is too long at ", n), Bound(keys), 0)
		keys[n] = numbered(n, 64)
		is(t, fmt.Sprint("Bound with a key of the greatest size at ", n), Bound(keys) > 0, true)
	}
}

func TestBoundChangesNothing(t *testing.T) {
	room := keysOf(40, 7)
	was := slices.Clone(room)
	Bound(room[:30])
	is(t, "what was handed in", room, was)
}
