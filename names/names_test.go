package names

import (
	"bytes"
	"math/rand"
	"slices"
	"strings"
	"testing"

	"pumice/api"
)

// letters: a text of n letters.
func letters(n int) string { return strings.Repeat("a", n) }

// longest: a path of MaxPath bytes whose parts are not too long.
func longest() string {
	path := strings.Repeat("/"+letters(api.MaxName), api.MaxPath/(api.MaxName+1))
	return path + strings.Repeat("/", api.MaxPath-len(path))
}

// inRoom: l as a list with spare room behind it, and the whole of that room.
func inRoom(l ...string) ([]string, []string) {
	room := append(slices.Clone(l), "spare", "spare", "spare", "spare")
	return room[:len(l)], room
}

// scribble: writes over all of l and its spare room.
func scribble(l []string) {
	l = l[:cap(l)]
	for i := range l {
		l[i] = "scribbled"
	}
}

// chance: a source that tells the same numbers each time.
func chance() *rand.Rand { return rand.New(rand.NewSource(2)) }

// somePath: a path of at most n bytes out of few letters, so that all kinds of parts come about.
func somePath(r *rand.Rand, n int) string {
	path := make([]byte, r.Intn(n+1))
	for i := range path {
		path[i] = "a./b./"[r.Intn(6)]
	}
	return string(path)
}

// someParts: at most n parts out of few texts, so that like ones come about.
func someParts(r *rand.Rand, n int) []string {
	parts := make([]string, r.Intn(n+1))
	for i := range parts {
		parts[i] = []string{"a", "b", "ab", "\xff"}[r.Intn(4)]
	}
	return parts
}

// F2.1

func TestRight(t *testing.T) {
	for _, c := range []struct {
		name string
		want api.Errno
	}{
		{"a", api.OK},
		{" ", api.OK},
		{"...", api.OK},
		{".a", api.OK},
		{"..a", api.OK},
		{"a.", api.OK},
		{"\xff", api.OK},
		{"\xc3\xa4", api.OK},
		{"\n\x01\x7f\\", api.OK},
		{letters(api.MaxName), api.OK},
		{strings.Repeat("\xff", api.MaxName), api.OK},
		{strings.Repeat(".", api.MaxName), api.OK},
		{"", api.ENOENT},
		{".", api.EINVAL},
		{"..", api.EINVAL},
		{"/", api.EINVAL},
		{"a/b", api.EINVAL},
		{"/a", api.EINVAL},
		{"a/", api.EINVAL},
		{"\xff/", api.EINVAL},
		{"\x00", api.EINVAL},
		{"a\x00", api.EINVAL},
		{"\x00a", api.EINVAL},
		{letters(api.MaxName-1) + "/", api.EINVAL},
		{letters(api.MaxName-1) + "\x00", api.EINVAL},
		{letters(api.MaxName + 1), api.ENAMETOOLONG},
		{letters(10000), api.ENAMETOOLONG},
		{strings.Repeat("\xc3\xa4", api.MaxName/2+1), api.ENAMETOOLONG},
		// Too long and wrong in itself: what is named first is told.
		{letters(api.MaxName) + "/", api.EINVAL},
		{letters(api.MaxName) + "\x00", api.EINVAL},
		{"/" + letters(api.MaxName+1), api.EINVAL},
	} {
		if got := Right(c.name); got != c.want {
			t.Errorf("Right(%q): %d, not %d", c.name, got, c.want)
		}
	}
}

func TestRightOfEachByte(t *testing.T) {
	for b := range 256 {
		want := api.OK
		if b == 0 || b == '/' || b == '.' {
			want = api.EINVAL
		}
		if got := Right(string([]byte{byte(b)})); got != want {
			t.Errorf("Right of the byte %#x: %d, not %d", b, got, want)
		}
		if b == '.' {
			want = api.OK
		}
		for _, name := range [][]byte{{'a', byte(b), 'b'}, append([]byte(letters(12)), byte(b))} {
			if got := Right(string(name)); got != want {
				t.Errorf("Right(%q): %d, not %d", name, got, want)
			}
		}
	}
}

// F2.2

func TestSplit(t *testing.T) {
	long := letters(api.MaxName)
	for _, c := range []struct {
		path  string
		parts []string
		slash bool
	}{
		{"/a//b/", []string{"a", "b"}, true},
		{"a", []string{"a"}, false},
		{"/a", []string{"a"}, false},
		{"a/", []string{"a"}, true},
		{"/", nil, true},
		{"///", nil, true},
		{"//a", []string{"a"}, false},
		{"a/b/c", []string{"a", "b", "c"}, false},
		{"b/a/b", []string{"b", "a", "b"}, false},
		{".", []string{"."}, false},
		{"/./../", []string{".", ".."}, true},
		{"a/..", []string{"a", ".."}, false},
		{"\xff/\xc3\xa4/ ", []string{"\xff", "\xc3\xa4", " "}, false},
		{long, []string{long}, false},
		{"/" + long + "/b", []string{long, "b"}, false},
		{strings.Repeat("/a", api.MaxDepth), slices.Repeat([]string{"a"}, api.MaxDepth), false},
		{strings.Repeat("a/", api.MaxDepth), slices.Repeat([]string{"a"}, api.MaxDepth), true},
		{strings.Repeat("//a", api.MaxDepth) + "//", slices.Repeat([]string{"a"}, api.MaxDepth), true},
		{longest(), slices.Repeat([]string{long}, 10), true},
		{strings.Repeat("/", api.MaxPath), nil, true},
		{strings.Repeat("/", api.MaxPath-1) + "a", []string{"a"}, false},
	} {
		p, errno := Split(c.path)
		if errno != api.OK || !slices.Equal(p.Parts, c.parts) || p.Slash != c.slash {
			t.Errorf("Split(%q): %+v, %d, not %q, %v, OK", c.path, p, errno, c.parts, c.slash)
		}
	}
}

func TestSplitErrors(t *testing.T) {
	for _, c := range []struct {
		path string
		want api.Errno
	}{
		{"", api.ENOENT},
		{strings.Repeat("/", api.MaxPath+1), api.ENAMETOOLONG},
		{longest() + "/", api.ENAMETOOLONG},
		{strings.Repeat("ab/", 100000), api.ENAMETOOLONG},
		{"\x00", api.EINVAL},
		{"/\x00\x00\x00", api.EINVAL},
		{"/a/b\x00", api.EINVAL},
		{"\x00/a", api.EINVAL},
		{"/" + letters(api.MaxName+1), api.ENAMETOOLONG},
		{letters(api.MaxName+1) + "/", api.ENAMETOOLONG},
		{"/a/" + letters(api.MaxName+1) + "/b", api.ENAMETOOLONG},
		{strings.Repeat(".", api.MaxName+1), api.ENAMETOOLONG},
		{strings.Repeat("/a", api.MaxDepth+1), api.ENAMETOOLONG},
		{strings.Repeat("a/", api.MaxDepth) + "..", api.ENAMETOOLONG},
		{strings.Repeat("./", api.MaxDepth+1), api.ENAMETOOLONG},
		// Several apply: what is named first is told.
		{strings.Repeat("\x00", api.MaxPath+1), api.ENAMETOOLONG},
		{strings.Repeat("\x00", api.MaxPath), api.EINVAL},
		{letters(api.MaxName+1) + "/\x00", api.EINVAL},
		{strings.Repeat("/a", api.MaxDepth+1) + "/\x00", api.EINVAL},
	} {
		p, errno := Split(c.path)
		if errno != c.want || p.Parts != nil || p.Slash {
			t.Errorf("Split(%.300q): %+v, %d, not the zero Path, %d", c.path, p, errno, c.want)
		}
	}
}

func TestPiecesStop(t *testing.T) {
	told := pieces("a/b/c")
	for range 2 {
		for piece := range told {
			if piece != "a" {
				t.Fatalf("the first piece: %q", piece)
			}
			break
		}
	}
}

// F2.3

func TestJoin(t *testing.T) {
	for _, c := range []struct {
		parts []string
		want  string
	}{
		{nil, "/"},
		{[]string{}, "/"},
		{[]string{"a"}, "/a"},
		{[]string{"a", "b"}, "/a/b"},
		{[]string{"b", "a", "b"}, "/b/a/b"},
		{[]string{"."}, "/."},
		{[]string{"a", "..", "."}, "/a/../."},
		{[]string{""}, "/"},
		{[]string{"", ""}, "//"},
		{[]string{"a/b", "c"}, "/a/b/c"},
		{[]string{"\x00", "\xff"}, "/\x00/\xff"},
		{slices.Repeat([]string{"ab"}, 1000), strings.Repeat("/ab", 1000)},
	} {
		if got := Join(c.parts); got != c.want {
			t.Errorf("Join(%q): %q, not %q", c.parts, got, c.want)
		}
	}
}

func TestParent(t *testing.T) {
	for _, c := range []struct {
		p     Path
		parts []string
		slash bool
		last  string
	}{
		{Path{Parts: []string{"a", "b"}}, []string{"a"}, false, "b"},
		{Path{Parts: []string{"a", "b"}, Slash: true}, []string{"a"}, false, "b"},
		{Path{Parts: []string{"a"}, Slash: true}, nil, false, "a"},
		{Path{Parts: []string{"a", "b", ".."}}, []string{"a", "b"}, false, ".."},
		{Path{Parts: []string{"a", ""}}, []string{"a"}, false, ""},
		{Path{}, nil, false, ""},
		{Path{Slash: true}, nil, true, ""},
		{Path{Parts: []string{}, Slash: true}, nil, true, ""},
	} {
		p, last := Parent(c.p)
		if !slices.Equal(p.Parts, c.parts) || p.Slash != c.slash || last != c.last {
			t.Errorf("Parent(%+v): %+v, %q, not %q, %v, %q", c.p, p, last, c.parts, c.slash, c.last)
		}
	}
}

func TestClean(t *testing.T) {
	for _, c := range []struct{ path, want string }{
		{"/a/./b/../c", "/a/c"},
		{"/..", "/"},
		{"x/", "/x"},
		{"x", "/x"},
		{"/", "/"},
		{"///", "/"},
		{".", "/"},
		{"./", "/"},
		{"..", "/"},
		{"../../a", "/a"},
		{"/../a/..", "/"},
		{"a/..", "/"},
		{"a/../..", "/"},
		{"a/../../b", "/b"},
		{"a/b/c/../..", "/a"},
		{"a/b/../../c", "/c"},
		{"a/./..", "/"},
		{"a//b///c//", "/a/b/c"},
		{".../..a/.b", "/.../..a/.b"},
		{"../a/../../b/./c/..", "/b"},
		{longest(), strings.Repeat("/"+letters(api.MaxName), 10)},
		{strings.Repeat("../", api.MaxDepth), "/"},
	} {
		if got, errno := Clean(c.path); errno != api.OK || got != c.want {
			t.Errorf("Clean(%q): %q, %d, not %q, OK", c.path, got, errno, c.want)
		}
	}
}

func TestCleanErrors(t *testing.T) {
	for _, c := range []struct {
		path string
		want api.Errno
	}{
		{"", api.ENOENT},
		{strings.Repeat("/", api.MaxPath+1), api.ENAMETOOLONG},
		{"/a\x00", api.EINVAL},
		{"a/../\x00", api.EINVAL},
		{letters(api.MaxName+1) + "/..", api.ENAMETOOLONG},
		// The parts are counted ahead of dropping.
		{strings.Repeat("./", api.MaxDepth+1), api.ENAMETOOLONG},
	} {
		if got, errno := Clean(c.path); errno != c.want || got != "" {
			t.Errorf("Clean(%.300q): %q, %d, not nothing, %d", c.path, got, errno, c.want)
		}
	}
}

// F2.4

func TestWithin(t *testing.T) {
	for _, c := range []struct {
		path, dir []string
		want      bool
	}{
		{[]string{"a", "b"}, []string{"a"}, true},
		{[]string{"a", "b"}, []string{"a", "b"}, true},
		{[]string{"a", "b"}, nil, true},
		{[]string{"a", "b"}, []string{}, true},
		{nil, nil, true},
		{[]string{}, nil, true},
		{nil, []string{"a"}, false},
		{[]string{"a"}, []string{"a", "b"}, false},
		{[]string{"a", "b"}, []string{"b"}, false},
		{[]string{"a", "b"}, []string{"a", "c"}, false},
		{[]string{"a", "b", "c"}, []string{"a", "c"}, false},
		{[]string{"ab"}, []string{"a"}, false},
		{[]string{"a"}, []string{"ab"}, false},
		{[]string{"a/b"}, []string{"a", "b"}, false},
		{[]string{"a"}, []string{""}, false},
		{[]string{"a", ".."}, []string{"a"}, true},
	} {
		if got := Within(c.path, c.dir); got != c.want {
			t.Errorf("Within(%q, %q): %v", c.path, c.dir, got)
		}
	}
}

func TestLess(t *testing.T) {
	for _, c := range []struct {
		a, b string
		want bool
	}{
		{"a", "b", true},
		{"b", "a", false},
		{"a", "a", false},
		{"", "", false},
		{"", "a", true},
		{"", "\x00", true},
		{"a", "", false},
		{"a", "ab", true},
		{"ab", "a", false},
		{"ab", "b", true},
		{"b", "ab", false},
		{"a\x00", "a", false},
		{"a", "a\x00", true},
		{"B", "a", true},
		{"10", "9", true},
		{"\x7f", "\x80", true},
		{"z", "\xff", true},
		{"\xff", "\xc3\xa4", false},
		// By bytes, not by runes: 0x80 alone reads as the rune U+FFFD, which stands behind the other one.
		{"\x80", "\xc3\xa4", true},
	} {
		if got := Less(c.a, c.b); got != c.want {
			t.Errorf("Less(%q, %q): %v", c.a, c.b, got)
		}
	}
}

func TestSort(t *testing.T) {
	for _, c := range []struct{ l, want []string }{
		{nil, nil},
		{[]string{}, nil},
		{[]string{"a"}, []string{"a"}},
		{[]string{"b", "a", "b"}, []string{"a", "b", "b"}},
		{[]string{"c", "b", "a"}, []string{"a", "b", "c"}},
		{[]string{"ab", "a", "", "b"}, []string{"", "a", "ab", "b"}},
		{[]string{"\xff", "a", "\x00", "B", "\xc3\xa4"}, []string{"\x00", "B", "a", "\xc3\xa4", "\xff"}},
		{[]string{"10", "9", "1"}, []string{"1", "10", "9"}},
	} {
		if got := Sort(c.l); !slices.Equal(got, c.want) {
			t.Errorf("Sort(%q): %q, not %q", c.l, got, c.want)
		}
	}
}

// P201

// rightParts: parts that a path may have, in all no longer than it may be.
func rightParts(r *rand.Rand) []string {
	parts := []string{}
	for room := r.Intn(api.MaxPath + 1); len(parts) < api.MaxDepth; {
		n := 1 + r.Intn(api.MaxName)
		if room -= n + 1; room < 0 {
			break
		}
		part := make([]byte, n)
		for i := range part {
			part[i] = ".ab\xff\x01"[r.Intn(5)]
		}
		parts = append(parts, string(part))
	}
	return parts
}

func TestSplitOfJoin(t *testing.T) {
	r := chance()
	for range 2000 {
		parts := rightParts(r)
		p, errno := Split(Join(parts))
		if errno != api.OK || !slices.Equal(p.Parts, parts) || p.Slash != (len(parts) == 0) {
			t.Fatalf("Split of Join(%q): %+v, %d", parts, p, errno)
		}
	}
}

func TestJoinOfSplit(t *testing.T) {
	r := chance()
	for range 2000 {
		path := somePath(r, 60)
		p, errno := Split(path)
		if errno != api.OK {
			continue
		}
		again, errno := Split(Join(p.Parts))
		if errno != api.OK || !slices.Equal(again.Parts, p.Parts) {
			t.Fatalf("%q: %+v, joined and split: %+v, %d", path, p, again, errno)
		}
	}
}

// TestSplitOfAny: against a plain reading of the chapter's words.
func TestSplitOfAny(t *testing.T) {
	r := chance()
	for range 3000 {
		path := somePath(r, 90)
		want := slices.DeleteFunc(strings.Split(path, "/"), func(s string) bool { return s == "" })
		long := slices.ContainsFunc(want, func(s string) bool { return len(s) > api.MaxName })
		p, errno := Split(path)
		switch {
		case path == "":
			if errno != api.ENOENT {
				t.Fatalf("Split(%q): %d", path, errno)
			}
		case long || len(want) > api.MaxDepth:
			if errno != api.ENAMETOOLONG {
				t.Fatalf("Split(%q): %d", path, errno)
			}
		case errno != api.OK || !slices.Equal(p.Parts, want) || p.Slash != (path[len(path)-1] == '/'):
			t.Fatalf("Split(%q): %+v, %d, not %q", path, p, errno, want)
		}
	}
}

// P202

func TestCleanOfClean(t *testing.T) {
	r := chance()
	for range 3000 {
		path := somePath(r, 60)
		clean, errno := Clean(path)
		p, want := Split(path)
		if errno != want {
			t.Fatalf("Clean(%q): %d, and Split: %d", path, errno, want)
		}
		if errno != api.OK {
			continue
		}
		if again, errno := Clean(clean); errno != api.OK || again != clean {
			t.Fatalf("Clean(%q): %q, and of that %q, %d", path, clean, again, errno)
		}
		left, _ := Split(clean)
		if slices.Contains(left.Parts, ".") || slices.Contains(left.Parts, "..") {
			t.Fatalf("Clean(%q): %q", path, clean)
		}
		if want := Join(cleaned(p.Parts)); clean != want {
			t.Fatalf("Clean(%q): %q, not %q", path, clean, want)
		}
	}
}

// cleaned: the parts that are left, found by taking out one part, or two, at a time.
func cleaned(parts []string) []string {
	for i, part := range parts {
		switch {
		case part == ".", part == ".." && i == 0:
			return cleaned(slices.Concat(parts[:i], parts[i+1:]))
		case part == "..":
			return cleaned(slices.Concat(parts[:i-1], parts[i+1:]))
		}
	}
	return parts
}

// P203

func TestLessIsAnOrder(t *testing.T) {
	l := []string{"", "\x00", "\x00\x00", "a", "a\x00", "aa", "ab", "b", "ba", "B", "\x80", "\xc3\xa4", "\xff", "\xff\xff"}
	for _, a := range l {
		for _, b := range l {
			if got, want := Less(a, b), bytes.Compare([]byte(a), []byte(b)) < 0; got != want {
				t.Errorf("Less(%q, %q): %v", a, b, got)
			}
			if a != b && Less(a, b) == Less(b, a) || a == b && Less(a, b) {
				t.Errorf("Less(%q, %q): %v, the other way: %v", a, b, Less(a, b), Less(b, a))
			}
			for _, c := range l {
				if Less(a, b) && Less(b, c) && !Less(a, c) {
					t.Errorf("Less does not go on from %q through %q to %q", a, b, c)
				}
			}
		}
	}
}

func TestSortHasWhatItWasGiven(t *testing.T) {
	r := chance()
	for range 500 {
		l := someParts(r, 40)
		sorted := Sort(l)
		if len(sorted) != len(l) {
			t.Fatalf("Sort(%q): %q", l, sorted)
		}
		for i, text := range sorted {
			if i > 0 && Less(text, sorted[i-1]) {
				t.Fatalf("Sort(%q): %q is out of order", l, sorted)
			}
			if count(l, text) != count(sorted, text) {
				t.Fatalf("Sort(%q): %q has not what it was given", l, sorted)
			}
		}
	}
}

// count: how many of the texts are this one.
func count(l []string, text string) int {
	n := 0
	for _, s := range l {
		if s == text {
			n++
		}
	}
	return n
}

// P204

func TestWithinIsAnOrder(t *testing.T) {
	r := chance()
	lists := [][]string{nil, {"a"}, {"a", "b"}, {"a", "b", "a"}, {"b"}, {"ab"}, {""}, {"", ""}}
	for range 40 {
		lists = append(lists, someParts(r, 4))
	}
	for _, a := range lists {
		if !Within(a, a) {
			t.Errorf("%q is not within itself", a)
		}
		for _, b := range lists {
			if Within(a, b) && Within(b, a) && !slices.Equal(a, b) {
				t.Errorf("%q and %q are within each other", a, b)
			}
			for _, c := range lists {
				if Within(a, b) && Within(b, c) && !Within(a, c) {
					t.Errorf("Within does not go on from %q through %q to %q", a, b, c)
				}
			}
		}
	}
}

// What is handed in is not changed, its spare room neither; what is handed out is new memory.

func TestSplitIsNewMemory(t *testing.T) {
	first, _ := Split("/a/b/c")
	scribble(first.Parts)
	second, _ := Split("/a/b/c")
	if !slices.Equal(second.Parts, []string{"a", "b", "c"}) {
		t.Errorf("Split again: %+v", second)
	}
}

func TestJoinChangesNothing(t *testing.T) {
	parts, room := inRoom("a", "..", "b")
	Join(parts)
	if !slices.Equal(room, []string{"a", "..", "b", "spare", "spare", "spare", "spare"}) {
		t.Errorf("Join changed its parts: %q", room)
	}
}

func TestParentIsNewMemory(t *testing.T) {
	for _, l := range [][]string{{}, {"a"}, {"a", "b"}, {"a", "b", "c"}} {
		parts, room := inRoom(l...)
		before := slices.Clone(room)
		p, _ := Parent(Path{Parts: parts})
		scribble(p.Parts)
		if !slices.Equal(room, before) {
			t.Errorf("Parent shares its list: %q, not %q", room, before)
		}
	}
}

func TestSortIsNewMemory(t *testing.T) {
	for _, l := range [][]string{{}, {"a"}, {"b", "a", "c"}} {
		texts, room := inRoom(l...)
		before := slices.Clone(room)
		scribble(Sort(texts))
		if !slices.Equal(room, before) {
			t.Errorf("Sort changed its list: %q, not %q", room, before)
		}
	}
}

func TestWithinChangesNothing(t *testing.T) {
	path, pathRoom := inRoom("a", "b")
	dir, dirRoom := inRoom("a")
	Within(path, dir)
	if !slices.Equal(pathRoom[:3], []string{"a", "b", "spare"}) || !slices.Equal(dirRoom[:2], []string{"a", "spare"}) {
		t.Errorf("Within changed its lists: %q, %q", pathRoom, dirRoom)
	}
}
