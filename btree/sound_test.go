package btree

import (
	"math"
	"math/rand"
	"slices"
	"strings"
	"testing"

	"pumice/api"
)

// leaf, inner: shapes with a key for each word; dirty: one that is.
func leaf(words string) Shape { return inner(0, words) }

func inner(level int, words string) Shape { return Shape{Level: level, Keys: strings.Fields(words)} }

func dirty(s Shape) Shape {
	s.Dirty = true
	return s
}

// F8.4
func TestSound(t *testing.T) {
	long := strings.Repeat("k", api.MaxKey)
	for _, c := range []struct {
		what string
		fan  int
		l    []Shape
		want bool
	}{
		{"nothing", 4, nil, false},
		{"no node", 4, []Shape{}, false},
		{"an empty leaf", 4, []Shape{{}}, true},
		{"an empty leaf with a list", 4, []Shape{{Keys: []string{}}}, true},
		{"a dirty empty leaf", 64, []Shape{{Dirty: true}}, true},
		{"one key", 4, []Shape{leaf("a")}, true},
		{"a full leaf", 4, []Shape{leaf("a b c d")}, true},
		{"a leaf too full", 4, []Shape{leaf("a b c d e")}, false},
		{"the same, of fan 5", 5, []Shape{leaf("a b c d e")}, true},
		{"two leaves", 4, []Shape{inner(1, "a c"), leaf("a b"), leaf("c d")}, true},
		{"the same, of fan 5", 5, []Shape{inner(1, "a c"), leaf("a b"), leaf("c d")}, true},
		{"the same, of fan 6", 6, []Shape{inner(1, "a c"), leaf("a b"), leaf("c d")}, false},
		{"the same, of fan 3", 3, []Shape{inner(1, "a c"), leaf("a b"), leaf("c d")}, false},
		{"four full leaves", 4, []Shape{inner(1, "a e i m"), leaf("a b c d"), leaf("e f g h"), leaf("i j k l"), leaf("m n o p")}, true},
		{"a root too full", 4, []Shape{inner(1, "a c e g i"), leaf("a b"), leaf("c d"), leaf("e f"), leaf("g h"), leaf("i j")}, false},
		{"an inner root of one", 4, []Shape{inner(1, "a"), leaf("a b")}, false},
		{"an inner root of none", 4, []Shape{inner(1, "")}, false},
		{"an inner root of none, with a leaf", 4, []Shape{inner(1, ""), leaf("a b")}, false},

		// How many keys there may be.
		{"a leaf too empty on the left", 4, []Shape{inner(1, "a c"), leaf("a"), leaf("c d")}, false},
		{"a leaf too empty on the right", 4, []Shape{inner(1, "a c"), leaf("a b"), leaf("c")}, false},
		{"a leaf without keys", 4, []Shape{inner(1, "a c"), leaf("a b"), leaf("")}, false},
		{"a leaf without keys on the left", 4, []Shape{inner(1, "a c"), leaf(""), leaf("c d")}, false},
		{"a leaf of F / 2 of an odd fan", 7, []Shape{inner(1, "a d"), leaf("a b c"), leaf("d e f")}, true},
		{"a leaf below F / 2 of an odd fan", 7, []Shape{inner(1, "a d"), leaf("a b c"), leaf("d e")}, false},
		{"a root of two of a wide fan", 8, []Shape{inner(1, "a e"), leaf("a b c d"), leaf("e f g h")}, true},
		{"a leaf too full below", 4, []Shape{inner(1, "a c"), leaf("a b"), leaf("c d e f g")}, false},

		// Levels.
		{"a leaf at the level 1", 4, []Shape{inner(1, "a b")}, false},
		{"an empty leaf at the level 1", 4, []Shape{{Level: 1}}, false},
		{"a leaf at the level -1", 4, []Shape{inner(-1, "a b")}, false},
		{"a root at the level 2", 4, []Shape{inner(2, "a c"), leaf("a b"), leaf("c d")}, false},
		{"a root at the level -1", 4, []Shape{inner(-1, "a c"), leaf("a b"), leaf("c d")}, false},
		{"a root at the greatest level", 4, []Shape{inner(math.MaxInt, "a c"), leaf("a b"), leaf("c d")}, false},
		{"a root at the least level", 4, []Shape{inner(math.MinInt, "a c"), leaf("a b"), leaf("c d")}, false},
		{"all at the level 0", 4, []Shape{leaf("a c"), leaf("a b"), leaf("c d")}, false},
		{"all at the level 1", 4, []Shape{inner(1, "a c"), inner(1, "a b"), inner(1, "c d")}, false},
		{"levels that rise", 4, []Shape{leaf("a c"), inner(1, "a b"), inner(1, "c d")}, false},
		{"leaves at unlike levels", 4, []Shape{inner(1, "a c"), leaf("a b"), inner(1, "c d")}, false},
		{"leaves at unlike levels, the first", 4, []Shape{inner(1, "a c"), inner(1, "a b"), leaf("c d")}, false},
		{"a leaf at the level -1 below", 4, []Shape{inner(1, "a c"), leaf("a b"), inner(-1, "c d")}, false},
		{"leaves first", 4, []Shape{leaf("a b"), leaf("c d"), inner(1, "a c")}, false},

		// As many nodes as keys above.
		{"two roots", 4, []Shape{leaf("a b"), leaf("c d")}, false},
		{"a leaf too few", 4, []Shape{inner(1, "a c"), leaf("a b")}, false},
		{"no leaf", 4, []Shape{inner(1, "a c")}, false},
		{"a leaf too many", 4, []Shape{inner(1, "a c"), leaf("a b"), leaf("c d"), leaf("e f")}, false},
		{"an inner node too many", 4, []Shape{inner(1, "a c"), leaf("a b"), leaf("c d"), inner(1, "e g")}, false},

		// Keys that rise.
		{"keys that fall", 4, []Shape{leaf("b a")}, false},
		{"a key twice", 4, []Shape{leaf("a a")}, false},
		{"a key twice, later", 4, []Shape{leaf("a b b")}, false},
		{"bytes above 127", 4, []Shape{leaf("z \x7f \x80 \xff")}, true},
		{"bytes above 127 that fall", 4, []Shape{leaf("\x80 \x7f")}, false},
		{"inner keys that fall", 4, []Shape{inner(1, "c a"), leaf("a b"), leaf("c d")}, false},
		{"inner keys that are one", 4, []Shape{inner(1, "a a"), leaf("a b"), leaf("c d")}, false},
		{"leaves that fall", 4, []Shape{inner(1, "a c"), leaf("c d"), leaf("a b")}, false},
		{"leaves that meet", 4, []Shape{inner(1, "a b"), leaf("a b"), leaf("b c")}, false},
		{"leaves that overlap", 4, []Shape{inner(1, "a c"), leaf("a d"), leaf("c e")}, false},
		{"keys that fall in the second leaf", 4, []Shape{inner(1, "a c"), leaf("a b"), leaf("d c")}, false},

		// What inner keys lead to.
		{"a lesser first key", 4, []Shape{inner(1, "A c"), leaf("a b"), leaf("c d")}, true},
		{"a greater first key", 4, []Shape{inner(1, "aa c"), leaf("a b"), leaf("c d")}, false},
		{"a key between", 4, []Shape{inner(1, "a bb"), leaf("a b"), leaf("c d")}, true},
		{"a key as the last ahead", 4, []Shape{inner(1, "a b"), leaf("a b"), leaf("c d")}, false},
		{"a key below the last ahead", 4, []Shape{inner(1, "a aa"), leaf("a b"), leaf("c d")}, false},
		{"a key above the first", 4, []Shape{inner(1, "a cc"), leaf("a b"), leaf("c d")}, false},
		{"a key above the last", 4, []Shape{inner(1, "a e"), leaf("a b"), leaf("c d")}, false},

		// Dirty ones.
		{"all dirty", 4, []Shape{dirty(inner(1, "a c")), dirty(leaf("a b")), dirty(leaf("c d"))}, true},
		{"a dirty root", 4, []Shape{dirty(inner(1, "a c")), leaf("a b"), leaf("c d")}, true},
		{"one dirty leaf", 4, []Shape{dirty(inner(1, "a c")), leaf("a b"), dirty(leaf("c d"))}, true},
		{"a dirty leaf below a clean root", 4, []Shape{inner(1, "a c"), dirty(leaf("a b")), leaf("c d")}, false},
		{"another one", 4, []Shape{inner(1, "a c"), leaf("a b"), dirty(leaf("c d"))}, false},

		// Keys that can be.
		{"a key of no byte", 4, []Shape{{Keys: []string{""}}}, false},
		{"a key of no byte ahead", 4, []Shape{{Keys: []string{"", "a"}}}, false},
		{"an inner key of no byte", 4, []Shape{{Level: 1, Keys: []string{"", "c"}}, leaf("a b"), leaf("c d")}, false},
		{"a key of MaxKey bytes", 4, []Shape{leaf("a " + long)}, true},
		{"a key that is longer", 4, []Shape{leaf("a " + long + "k")}, false},
	} {
		was := cloned(c.l)
		is(t, "Sound of "+c.what, Sound(c.l, c.fan), c.want)
		alike(t, "the list is as it was", c.l, was)
	}
}

func cloned(l []Shape) []Shape {
	out := slices.Clone(l)
	for i := range out {
		out[i].Keys = slices.Clone(out[i].Keys)
	}
	return out
}

// F8.4: of fans that can't be nothing is sound.
func TestSoundFan(t *testing.T) {
	for _, fan := range []int{3, 65, 2, 0, -1, -4, 1000, math.MaxInt, math.MinInt} {
		is(t, "an empty leaf", Sound([]Shape{{}}, fan), false)
		is(t, "a leaf", Sound([]Shape{leaf("a")}, fan), false)
		is(t, "two leaves", Sound([]Shape{inner(1, "a c"), leaf("a b"), leaf("c d")}, fan), false)
		is(t, "nothing", Sound(nil, fan), false)
	}
	for fan := 4; fan <= 64; fan++ {
		is(t, "an empty leaf", Sound([]Shape{{}}, fan), true)
		keys := numbered(fan + 1)
		is(t, "a full leaf", Sound([]Shape{{Keys: keys[:fan]}}, fan), true)
		is(t, "a leaf too full", Sound([]Shape{{Keys: keys}}, fan), false)
		half := fan / 2
		part := func(cut, end int) []Shape {
			return []Shape{{Level: 1, Keys: []string{keys[0], keys[cut]}}, {Keys: keys[:cut]}, {Keys: keys[cut:end]}}
		}
		is(t, "two halves", Sound(part(half, 2*half), fan), true)
		is(t, "less than half, first", Sound(part(half-1, 2*half), fan), false)
		is(t, "less than half, last", Sound(part(half, 2*half-1), fan), false)
	}
}

// three: a tree of three levels, all as it should be.
func three() []Shape {
	return []Shape{
		inner(2, "b j"),
		inner(1, "b f"), inner(1, "j n"),
		leaf("b d"), leaf("f h"), leaf("j l"), leaf("n p"),
	}
}

// F8.4, of levels in between: an inner key is held against the leaves, however far below they are.
func TestSoundThree(t *testing.T) {
	is(t, "three levels", Sound(three(), 4), true)
	key := func(node, i int, key string) func([]Shape) []Shape {
		return func(l []Shape) []Shape {
			l[node].Keys[i] = key
			return l
		}
	}
	soil := func(which ...int) func([]Shape) []Shape {
		return func(l []Shape) []Shape {
			for _, i := range which {
				l[i].Dirty = true
			}
			return l
		}
	}
	for _, c := range []struct {
		what string
		turn func([]Shape) []Shape
		want bool
	}{
		{"a lesser first key", key(0, 0, "a"), true},
		{"a lesser first key below", key(1, 0, "a"), true},
		{"a greater first key", key(0, 0, "c"), false},
		{"a greater first key below", key(1, 0, "c"), false},
		{"the root's second key between", key(0, 1, "i"), true},
		{"the root's second key as the last ahead", key(0, 1, "h"), false},
		{"the root's second key below it", key(0, 1, "g"), false},
		{"the root's second key above the first below", key(0, 1, "k"), false},
		{"the first of the second node between", key(2, 0, "i"), true},
		{"the first of the second node as the last ahead", key(2, 0, "h"), false},
		{"the first of the second node above its leaf's", key(2, 0, "k"), false},
		{"the second of the first node between", key(1, 1, "e"), true},
		{"the second of the first node as the last ahead", key(1, 1, "d"), false},
		{"the second of the first node above its leaf's", key(1, 1, "g"), false},
		{"the second of the second node between", key(2, 1, "m"), true},
		{"the second of the second node below the last ahead", key(2, 1, "k"), false},
		{"a leaf's key that meets the next", key(4, 1, "j"), false},
		{"a leaf's first key below the last ahead", key(5, 0, "g"), false},
		{"the root dirty", soil(0), true},
		{"a way dirty", soil(0, 1, 4), true},
		{"another way dirty", soil(0, 2, 5), true},
		{"all dirty", soil(0, 1, 2, 3, 4, 5, 6), true},
		{"a leaf dirty", soil(3), false},
		{"the last leaf dirty", soil(6), false},
		{"the root and a leaf dirty", soil(0, 5), false},
		{"a leaf, and the wrong node above it", soil(0, 1, 5), false},
		{"an inner node dirty", soil(1), false},
		{"an inner node and its leaf dirty", soil(2, 6), false},
		{"the inner nodes turned", func(l []Shape) []Shape { l[1], l[2] = l[2], l[1]; return l }, false},
		{"two leaves turned", func(l []Shape) []Shape { l[4], l[5] = l[5], l[4]; return l }, false},
		{"the last leaf missing", func(l []Shape) []Shape { return l[:6] }, false},
		{"a leaf missing", func(l []Shape) []Shape { return slices.Delete(l, 3, 4) }, false},
		{"an inner node missing", func(l []Shape) []Shape { return slices.Delete(l, 2, 3) }, false},
		{"the root missing", func(l []Shape) []Shape { return l[1:] }, false},
		{"the leaves missing", func(l []Shape) []Shape { return l[:3] }, false},
		{"a level missing", func(l []Shape) []Shape { return slices.Delete(l, 1, 3) }, false},
		{"a leaf more", func(l []Shape) []Shape { return append(l, leaf("r t")) }, false},
		{"an inner node of one", func(l []Shape) []Shape {
			l[1].Keys = l[1].Keys[:1]
			return slices.Delete(l, 4, 5)
		}, false},
		{"leaves of the right number under the wrong node", func(l []Shape) []Shape {
			l[1].Keys, l[2].Keys = []string{"b", "f", "i"}, []string{"n"}
			return l
		}, false},
		{"the kids lie otherwise", func(l []Shape) []Shape {
			l[2].Keys = []string{"j", "n", "r"}
			return append(l, leaf("r t"))
		}, true},
		{"levels two too great", func(l []Shape) []Shape {
			for i := range l {
				l[i].Level += 2
			}
			return l
		}, false},
	} {
		is(t, "Sound of "+c.what, Sound(c.turn(three()), 4), c.want)
	}
}

// turned: shapes with one thing changed by chance.
func turned(r *rand.Rand, l []Shape) []Shape {
	l = cloned(l)
	i := r.Intn(len(l))
	k := r.Intn(max(len(l[i].Keys), 1))
	switch r.Intn(6) {
	case 0:
		l[i].Dirty = !l[i].Dirty
	case 1:
		if len(l[i].Keys) > 0 {
			b := []byte(l[i].Keys[k])
			b[len(b)-1] += byte(r.Intn(5)) - 2
			l[i].Keys[k] = string(b)
		}
	case 2:
		if len(l[i].Keys) > 0 {
			l[i].Keys = slices.Delete(l[i].Keys, k, k+1)
		}
	case 3:
		l[i].Keys = slices.Insert(l[i].Keys, k, chance(r, 400)+"\x01")
	case 4:
		j := r.Intn(len(l))
		l[i].Keys, l[j].Keys = l[j].Keys, l[i].Keys
	case 5:
		if i > 0 && l[i].Level == 0 && len(l) > 2 {
			l = slices.Delete(l, i, i+1)
		}
	}
	return l
}

// F8.4: shapes of trees, with one thing changed, against the chapter's words one by one.
func TestSoundByChance(t *testing.T) {
	counts := [2]int{}
	for seed := range int64(4000) {
		r := rand.New(rand.NewSource(seed))
		fan := 4 + r.Intn(4)
		x := empty(t, fan)
		for range r.Intn(60) {
			k := chance(r, 200) + "\x01"
			x.Put(k, "")
			if r.Intn(20) == 0 {
				x.Clean()
			}
		}
		l := turned(r, x.Shapes())
		wrong := hangs(l, fan)
		if got := Sound(l, fan); got != (wrong == "") {
			t.Fatalf("seed %d, fan %d: Sound says %v of %+v: %q", seed, fan, got, l, wrong)
		}
		if wrong == "" {
			counts[0]++
		} else {
			counts[1]++
		}
	}
	if min(counts[0], counts[1]) < 400 {
		t.Errorf("%v: the chance is badly laid", counts)
	}
}
