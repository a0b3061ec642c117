package audit

import (
	"fmt"
	"math"
	"slices"
	"testing"

	"pumice/api"
	"pumice/node"
)

// numbersOfAllSizes: that no inode has.
func noNumbers() []int {
	return []int{0, -1, -2, 4097, 65535, 65536, 65537, 65538, 1<<32 + 2, math.MinInt, math.MaxInt}
}

// sample: d (2) and f (3, 300 bytes, also d/g), d/e (4) with a Link l (5), an orphan 7.
func sample() []api.Node {
	return with(3,
		orphan(7),
		entry(1, "d", 2, api.Dir), entry(1, "f", 3, api.File),
		dir(2, 3), entry(2, "e", 4, api.Dir), entry(2, "g", 3, api.File),
		inode(3, api.File, 2, 300), block(3, 0, 128), block(3, 2, 44),
		dir(4, 2), entry(4, "l", 5, api.Link),
		inode(5, api.Link, 1, 10), block(5, 0, 10),
		inode(7, api.File, 0, 40), block(7, 0, 128),
	)
}

func TestSample(t *testing.T) { finds(t, "the sample", sample(), "") }

func TestCount(t *testing.T) {
	for _, c := range []struct {
		what string
		l    []api.Node
		want Totals
	}{
		{"none", nil, Totals{}},
		{"the sample", sample(), Totals{Inodes: 6, Files: 2, Dirs: 3, Links: 1, Entries: 5, Blocks: 4, Orphans: 1, Bytes: 340}},
		{"the root", with(2), Totals{Inodes: 1, Dirs: 1}},
		{"Sizes of Files alone", []api.Node{inode(1, api.Dir, 2, 1), inode(2, api.Link, 1, 10), inode(3, api.File, 1, 100), inode(4, api.File, 0, 16384)},
			Totals{Inodes: 4, Files: 2, Dirs: 1, Links: 1, Bytes: 16484}},
		{"what hangs on nothing", []api.Node{orphan(9), entry(8, "a", 7, api.Dir), block(6, 1, 1)}, Totals{Entries: 1, Blocks: 1, Orphans: 1}},
		{"wrong keys", []api.Node{raw("", ""), raw("x", "y"), raw(node.InodeKey(0), file(1, 1).Value), raw(node.EntryKey(1, "."), entry(1, "a", 2, 1).Value), raw(node.BlockKey(1, 128), "x"), raw(node.OrphanKey(0), "")}, Totals{}},
		{"wrong values", []api.Node{raw(node.InodeKey(1), "x"), raw(node.EntryKey(1, "a"), "x"), raw(node.BlockKey(1, 0), ""), raw(node.BlockKey(1, 1), long(129)), raw(node.OrphanKey(1), "x")}, Totals{}},
		{"blocks of the least and the greatest size", []api.Node{block(2, 0, 1), block(2, 1, 128)}, Totals{Blocks: 2}},
		{"one key twice", []api.Node{inode(2, api.File, 1, 5), entry(1, "a", 2, 1), inode(2, api.File, 1, 7), entry(1, "a", 3, 1)}, Totals{Inodes: 1, Files: 1, Entries: 1, Bytes: 7}},
		{"one key twice, of two Kinds", []api.Node{inode(2, api.File, 1, 5), dir(2, 2)}, Totals{Inodes: 1, Dirs: 1}},
		{"Gone", []api.Node{file(2, 1), orphan(2), block(2, 0, 1), gone(node.InodeKey(2)), gone(node.OrphanKey(2)), gone(node.BlockKey(2, 0)), gone(node.EntryKey(1, "a"))}, Totals{}},
		{"Gone ahead", []api.Node{gone(node.InodeKey(2)), inode(2, api.File, 1, 5)}, Totals{Inodes: 1, Files: 1, Bytes: 5}},
		{"wrong behind", []api.Node{file(2, 1), raw(node.InodeKey(2), "")}, Totals{}},
	} {
		is(t, c.what, Count(c.l), c.want)
	}
}

func TestCountOfAll(t *testing.T) {
	var l []api.Node
	for ino := 1; ino <= api.MaxInodes; ino++ {
		l = append(l, inode(ino, api.File, 0, api.MaxFile))
	}
	is(t, "all inodes", Count(l), Totals{Inodes: 4096, Files: 4096, Bytes: 4096 * 16384})
}

func TestNames(t *testing.T) {
	for ino, want := range []int{0, 0, 1, 2, 1, 1, 0, 0, 0} {
		is(t, fmt.Sprint("Names of ", ino), Names(sample(), ino), want)
	}
	for _, ino := range noNumbers() {
		is(t, fmt.Sprint("Names of ", ino), Names(sample(), ino), 0)
	}
	is(t, "of none", Names(nil, 1), 0)
	is(t, "of one that is not there", Names([]api.Node{entry(8, "a", 9, api.File), entry(8, "b", 9, api.Dir), entry(9, "a", 9, api.Link)}, 9), 3)
	is(t, "the greatest number", Names([]api.Node{entry(1, "a", 4096, api.File)}, 4096), 1)
	is(t, "a wrong entry", Names([]api.Node{raw(node.EntryKey(1, "a"), "\x02\x00\x01\x00"), raw(node.EntryKey(0, "a"), "\x02\x00\x01")}, 2), 0)
	is(t, "one key twice", Names([]api.Node{entry(1, "a", 2, 1), entry(1, "a", 2, 1)}, 2), 1)
	is(t, "one key twice, to another one", Names([]api.Node{entry(1, "a", 2, 1), entry(1, "a", 3, 1)}, 2), 0)
	is(t, "Gone", Names([]api.Node{entry(1, "a", 2, 1), gone(node.EntryKey(1, "a"))}, 2), 0)
	is(t, "wrong behind", Names([]api.Node{entry(1, "a", 2, 1), raw(node.EntryKey(1, "a"), "")}, 2), 0)
}

func TestReach(t *testing.T) {
	for _, c := range []struct {
		what string
		l    []api.Node
		want []int
	}{
		{"none", nil, nil},
		{"the root", with(2), []int{1}},
		{"the sample", sample(), []int{1, 2, 3, 4, 5}},
		{"no root", sample()[1:], nil},
		{"a spoilt root", append(sample(), raw(node.InodeKey(1), "x")), nil},
		{"a Gone root", append(sample(), gone(node.InodeKey(1))), nil},
		{"a File as root", []api.Node{file(1, 0), entry(1, "a", 9, api.File), file(9, 1)}, []int{1, 9}},
		{"an entry to none", with(2, entry(1, "a", 9, api.File)), []int{1}},
		{"over a number that is not there", with(2, entry(1, "a", 9, api.Dir), entry(9, "b", 2, api.File), file(2, 1)), []int{1, 2}},
		{"over a File", with(2, entry(1, "a", 9, api.File), file(9, 1), entry(9, "b", 2, api.File), file(2, 1)), []int{1, 2, 9}},
		{"a ring over the root", with(2, entry(1, "a", 3, api.Dir), dir(3, 2), entry(3, "r", 1, api.Dir), file(4, 1)), []int{1, 3}},
		{"a ring aside", with(2, dir(3, 2), entry(3, "a", 3, api.Dir), dir(4, 2), entry(4, "r", 1, api.Dir)), []int{1}},
		{"numbers rise, names fall", with(2, entry(1, "a", 4096, 1), entry(1, "b", 300, 1), entry(1, "c", 2, 1), file(2, 1), file(300, 1), file(4096, 1)), []int{1, 2, 300, 4096}},
		{"a wrong entry", with(2, raw(node.EntryKey(1, "a"), "\x02\x00"), file(2, 1)), []int{1}},
		{"an orphan", with(2, orphan(2), file(2, 0)), []int{1}},
		{"of two names once", with(2, entry(1, "a", 2, 1), entry(1, "b", 2, 1), file(2, 2)), []int{1, 2}},
	} {
		same(t, c.what, Reach(c.l), c.want)
		slices.Reverse(c.l)
		if !twice(c.l) {
			same(t, c.what+", turned round", Reach(c.l), c.want)
		}
	}
}

func TestFree(t *testing.T) {
	free := func(what string, l []api.Node, want int) {
		t.Helper()
		n, ok := Free(l)
		is(t, what, n, want)
		is(t, what+": is there one", ok, want != 0)
	}
	free("none", nil, 1)
	free("the root", with(2), 2)
	free("the sample", sample(), 6)
	free("an orphan's node alone", with(2, orphan(2)), 3)
	free("an orphan's node and the inode's", with(2, orphan(2), file(2, 0)), 3)
	free("an orphan's of 1", []api.Node{orphan(1)}, 2)
	free("a spoilt inode", with(2, raw(node.InodeKey(2), "x")), 3)
	free("a spoilt inode without a byte", with(2, raw(node.InodeKey(2), "")), 3)
	free("a spoilt orphan's", with(2, raw(node.OrphanKey(2), "x")), 3)
	free("entries and blocks do not count", with(2, entry(2, "a", 2, api.File), block(2, 0, 1), entry(1, "a", 2, api.File)), 2)
	free("wrong keys do not count", []api.Node{raw("\x00\x01\x01x", ""), raw("\x00\x01\x04", ""), raw("\x00\x00\x04\x00\x01x", ""), raw(node.InodeKey(0), ""), raw(node.InodeKey(4097), "")}, 1)
	free("a gap", []api.Node{file(1, 1), file(2, 1), file(4, 1)}, 3)
	free("a gap at the beginning", []api.Node{file(2, 1), file(3, 1)}, 1)
	free("not in order", []api.Node{file(3, 1), orphan(1), file(2, 1)}, 4)
	free("Gone", with(2, file(2, 1), orphan(3), gone(node.InodeKey(2)), gone(node.OrphanKey(3))), 2)
	free("Gone, but its orphan's not", with(2, file(2, 1), orphan(2), gone(node.InodeKey(2))), 3)
	free("Gone ahead", with(2, gone(node.InodeKey(2)), file(2, 1)), 3)

	var all []api.Node
	for ino := 1; ino <= api.MaxInodes; ino++ {
		all = append(all, []api.Node{file(ino, 1), orphan(ino)}[ino%2])
	}
	free("all", all, 0)
	free("all but the greatest", all[:4095], 4096)
	free("all but the least", all[1:], 1)
	free("all, one Gone", append(all, gone(all[2999].Key)), 3000)
}

func TestBelow(t *testing.T) {
	// What each number of the sample leads to, itself too.
	lead := map[int][]int{1: {1, 2, 3, 4, 5}, 2: {2, 3, 4, 5}, 3: {3}, 4: {4, 5}, 5: {5}, 6: {6}, 7: {7}}
	for ino := range 8 {
		for dir := range 8 {
			want := ino == dir || slices.Contains(lead[ino], dir)
			is(t, fmt.Sprintf("Below %d, %d", ino, dir), Below(sample(), ino, dir), want)
		}
	}
	chain := with(2, entry(1, "a", 2, api.Dir), entry(2, "a", 3, api.Dir), entry(3, "a", 4, api.Dir), entry(4, "a", 5, api.Dir))
	is(t, "through a third one", Below(chain, 1, 3), true)
	is(t, "through a third one and a fourth one", Below(chain, 1, 4), true)
	is(t, "from the first to the last", Below(chain, 1, 5), true)
	is(t, "above", Below(chain, 4, 3), false)
	is(t, "far above", Below(chain, 5, 1), false)

	ring := []api.Node{entry(8, "a", 9, api.Dir), entry(9, "a", 8, api.Dir), entry(9, "b", 3, api.File)}
	is(t, "round a ring", Below(ring, 9, 8), true)
	is(t, "round a ring, the other way", Below(ring, 8, 9), true)
	is(t, "out of a ring", Below(ring, 8, 3), true)
	is(t, "into a ring", Below(ring, 3, 8), false)
	is(t, "not in a ring", Below(ring, 8, 7), false)
	is(t, "over a File", Below([]api.Node{file(2, 1), entry(2, "a", 3, api.File), entry(3, "b", 4, api.Link)}, 2, 4), true)
	is(t, "by a wrong entry", Below([]api.Node{raw(node.EntryKey(2, "a"), "\x03\x00")}, 2, 3), false)
	is(t, "by an entry that is Gone", Below([]api.Node{entry(2, "a", 3, 1), gone(node.EntryKey(2, "a"))}, 2, 3), false)
	is(t, "by an entry that was another one", Below([]api.Node{entry(2, "a", 3, 1), entry(2, "a", 4, 1)}, 2, 3), false)
	for _, n := range noNumbers() {
		is(t, fmt.Sprint("the same ", n), Below(sample(), n, n), true)
		is(t, fmt.Sprint("of none the same ", n), Below(nil, n, n), true)
		is(t, fmt.Sprint("down to ", n), Below(sample(), 1, n), false)
		is(t, fmt.Sprint("down from ", n), Below(sample(), n, 1), false)
	}
	is(t, "the lowest 16 bits", Below(sample(), 65536+1, 2), false)
	is(t, "of none", Below(nil, 1, 2), false)
}

// calls: all functions, of one list, as a text.
func calls(l []api.Node) string {
	free, ok := Free(l)
	text := fmt.Sprint(Check(l), Sound(l), Count(l), Reach(l), free, ok)
	for ino := range 10 {
		text += fmt.Sprint(" ", Names(l, ino))
		for dir := range 10 {
			text += fmt.Sprint(Below(l, ino, dir))
		}
	}
	return text
}

// TestNothingIsChanged: the list and its spare room stay as they were, and no answer is another one's memory.
func TestNothingIsChanged(t *testing.T) {
	l := append(sample(), gone(node.InodeKey(3)), dir(9, 5), raw("x", "y"), file(3, 1), entry(9, "z", 9, api.Dir))
	l = slices.Grow(l, 20)
	for i := range l[len(l):cap(l)] {
		l[:cap(l)][len(l)+i] = raw("spare", fmt.Sprint(i))
	}
	before, first := slices.Clone(l[:cap(l)]), calls(l)
	if !slices.Equal(l[:cap(l)], before) {
		t.Errorf("the list was changed")
	}
	findings, reach := Check(l), Reach(l)
	for i := range findings[:cap(findings)] {
		findings[:cap(findings)][i] = Finding{Kind: 99, Key: "spoilt"}
	}
	for i := range reach[:cap(reach)] {
		reach[:cap(reach)][i] = 99
	}
	is(t, "all calls again", calls(l), first)
	if !slices.Equal(l[:cap(l)], before) {
		t.Errorf("the list was changed through an answer")
	}
}

// TestSameAnswers: whatever order maps are gone through in.
func TestSameAnswers(t *testing.T) {
	l := append(sample(), entry(5, "z", 2, api.Dir), entry(3, "z", 9, api.Dir), entry(9, "z", 3, api.Dir), raw("x", "y"))
	first := calls(l)
	for range 200 {
		is(t, "again", calls(l), first)
	}
}
