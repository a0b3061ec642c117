package cache

import (
	"fmt"
	"math"
	"slices"
	"strings"
	"testing"

	"pumice/api"
	"pumice/space"
	"pumice/store"
)

// TestExample: the chapter's.
func TestExample(t *testing.T) {
	for torn := range 3 {
		for at := 1; at < 9; at++ {
			x := empty(t)
			c := x.Store().Chip()
			puts(t, x, group(put("a", "1")))
			is(t, "Get", got(x, "a"), told("1"))
			is(t, "Waiting", x.Waiting(), 1)
			flushes(t, x, 1)
			is(t, "Waiting", x.Waiting(), 0)
			puts(t, x, group(gone("a")))
			is(t, "Get of what is gone", got(x, "a"), none)
			arm(t, c, api.Fault{At: at, Kind: api.Cut, Torn: torn})
			for c.On() && x.Put(group(put("b", text(200, at)))) == api.OK && x.Sync() == api.OK {
			}
			c.Power()
			m := whole(t, "mounted", mounted(t, c))
			if m["a"] != "" && m["a"] != "1" || m["a"] == "1" && m["b"] != "" {
				t.Errorf("cut at %d, torn %d: %v", at, torn, m)
			}
		}
	}
}

// TestNil: a nil cache, and one of a nil store.
func TestNil(t *testing.T) {
	for _, x := range []*Cache{nil, New(nil)} {
		is(t, "Put", x.Put(group(put("a", "1"))), api.EFAULT)
		is(t, "Put of what is wrong", x.Put(nil), api.EFAULT)
		is(t, "Get", got(x, "a"), fmt.Sprintf(failed, api.EFAULT))
		is(t, "Get of no key", got(x, ""), fmt.Sprintf(failed, api.EFAULT))
		for _, most := range []int{-1, 0, 9} {
			l, errno := x.Range("", "", most)
			is(t, "Range", fmt.Sprint(len(l), errno), fmt.Sprint(0, api.EFAULT))
		}
		more, errno := x.Flush()
		is(t, "Flush", fmt.Sprint(more, errno), fmt.Sprint(false, api.EFAULT))
		is(t, "Sync", x.Sync(), api.EFAULT)
		is(t, "Evict", x.Evict(3), 0)
		is(t, "Waiting", x.Waiting(), 0)
		is(t, "Cost", x.Cost(), 0)
		is(t, "Limit", x.Limit(), 0)
		is(t, "Store", x.Store(), nil)
	}
}

// TestNew: over a store that has a map.
func TestNew(t *testing.T) {
	s, _ := store.Format(chip(t, small))
	s.Put(group(put("a", "1"), put("b", "22")))
	x := New(s)
	is(t, "Waiting", x.Waiting(), 0)
	is(t, "Store", x.Store(), s)
	is(t, "Limit", x.Limit(), 2688)
	is(t, "Evict", x.Evict(9), 0)
	model{"a": "1", "b": "22"}.held(t, "New", x)
}

// TestApart: what waits in a cache is in that one alone.
func TestApart(t *testing.T) {
	x := empty(t)
	y := New(x.Store())
	puts(t, x, group(put("a", "1")))
	is(t, "Waiting", y.Waiting(), 0)
	is(t, "Cost", y.Cost(), 0)
	is(t, "Get ahead of Flush", got(y, "a"), none)
	flushes(t, x, 1)
	is(t, "Get behind it", got(y, "a"), told("1"))
	is(t, "Cost behind it", y.Cost(), space.Node("a", "1"))
}

// wrongs: groups that are not right.
func wrongs() map[string][]api.Node {
	var many, bytes []api.Node
	for n := range api.MaxGroup + 1 {
		many = append(many, gone(text(3, n)))
	}
	for n := range 6 {
		bytes = append(bytes, put(text(3, n), text(api.MaxValue, n)))
	}
	return map[string][]api.Node{
		"nil":               nil,
		"no node":           {},
		"a node too many":   many,
		"an empty key":      group(put("a", "1"), put("", "1")),
		"a long key":        group(put(text(api.MaxKey+1, 1), "1")),
		"a long value":      group(put("a", text(api.MaxValue+1, 1))),
		"Gone with a value": group(api.Node{Key: "a", Value: "1", Gone: true}),
		"a key twice":       group(put("a", "1"), put("b", "1"), gone("a")),
		"too many bytes":    bytes,
	}
}

// TestPutErrors: P1901: in the order told; nothing changes.
func TestPutErrors(t *testing.T) {
	for what, g := range wrongs() {
		x := empty(t)
		puts(t, x, group(put("a", "1")))
		idle(t, what, x, func() { is(t, what, x.Put(g), api.EINVAL) })
		model{"a": "1"}.held(t, what, x)
		x.Store().Chip().Arm([]api.Fault{{At: 1, Kind: api.Cut}})
		x.Sync()
		is(t, what+", the power is off", x.Put(g), api.EINVAL)
	}
}

// TestGreatestGroup: one of as many nodes, and of as many bytes, as may be.
func TestGreatestGroup(t *testing.T) {
	var many, bytes []api.Node
	for n := range api.MaxGroup {
		many = append(many, put(text(3, n), text(n, n)))
	}
	for n := range 5 {
		bytes = append(bytes, put(text(15, n), text(api.MaxValue, n))) // 5 x (6 + 3 + 15 + 256) = 1400
	}
	x := formatted(t, chip(t, middle))
	puts(t, x, many, bytes)
	m := model{}.with(many).with(bytes)
	m.held(t, "waiting", x)
	is(t, "Sync", x.Sync(), api.OK)
	m.held(t, "synced", x)
	m.held(t, "mounted", mounted(t, x.Store().Chip()))
}

// TestPutIdle: P1901: Put, Get, Range and Evict change nothing on the chip; a group stands there only behind Flush and Sync.
func TestPutIdle(t *testing.T) {
	x := formatted(t, chip(t, middle))
	m := model{}
	idle(t, "calls", x, func() {
		for n := range 60 {
			g := group(put(text(5, n), text(n, n)), gone(text(5, n/2)))
			if n%2 == 0 {
				g = g[:1]
			}
			puts(t, x, g)
			m = m.with(g)
			is(t, "Waiting", x.Waiting(), n+1)
			is(t, "the store", x.Store().Cost(), 0)
		}
		m.held(t, "waiting", x)
		x.Evict(0)
	})
	whole := whole(t, "mounted", mounted(t, x.Store().Chip().Clone()))
	is(t, "what stands on the chip", len(whole), 0)
}

// TestRoom: P1901: ENOSPC at the limit and one byte beyond it, of what waits, and of what is in the store.
func TestRoom(t *testing.T) {
	for flushed := range 12 {
		x := empty(t)
		m := model{}
		for n := range 9 { // 9 x 266 = 2394 of 2688
			g := group(put(text(3, n), text(196, n)))
			puts(t, x, g)
			m = m.with(g)
		}
		for range min(flushed, 9) {
			flushes(t, x, 1)
		}
		if flushed == 10 {
			ranged(t, "kept", x, "", "", everything)
		}
		if flushed == 11 {
			is(t, "Sync", x.Sync(), api.OK)
		}
		what := fmt.Sprint("behind ", flushed, " Flushes")
		for _, c := range []struct {
			what string
			g    []api.Node
			want api.Errno
		}{
			{"at the limit", group(put("0.0", text(196+38, 1)), put("x", text(190, 1))), api.OK}, // 38 + 256 = 294
			{"one byte beyond", group(put("0.0", text(196+39, 1)), put("x", text(190, 1))), api.ENOSPC},
			{"taking out makes room", group(put("0.0", text(196+39, 1)), gone("1.1"), put("x", text(190, 1))), api.OK},
			{"taking out what is not there makes none", group(put("0.0", text(196+39, 1)), gone("11"), put("x", text(190, 1))), api.ENOSPC},
			{"two new ones", group(put("x", text(150, 1)), put("y", text(12, 1))), api.OK}, // 216 + 78 = 294
			{"two new ones and a byte", group(put("x", text(150, 1)), put("y", text(13, 1))), api.ENOSPC},
		} {
			is(t, what+": "+c.what, m.answer(c.g, x.Limit()), c.want)
			y := clone(t, x)
			is(t, what+": "+c.what, y.Put(c.g), c.want)
			if c.want == api.OK {
				m.with(c.g).held(t, what+": "+c.what, y)
			} else {
				m.held(t, what+": "+c.what, y)
			}
			is(t, what+": "+c.what+": Sync", y.Sync(), api.OK)
		}
	}
}

// clone: another cache, over a store on a copy of the chip, with the same map and the same groups waiting.
func clone(t *testing.T, x *Cache) *Cache {
	t.Helper()
	y := formatted(t, chip(t, x.Store().Chip().Geometry()))
	for key, value := range whole(t, "clone", x.Store()) {
		puts(t, y, group(put(key, value)))
	}
	is(t, "clone: Sync", y.Sync(), api.OK)
	puts(t, y, x.waiting...)
	for key := range x.kept {
		y.Get(key)
	}
	return y
}

// TestFull: at the limit what costs no more has room, whatever waits.
func TestFull(t *testing.T) {
	for flushed := range 3 {
		x := empty(t)
		m := model{}
		for n := range 8 { // 8 x (64 + 2 x 8 + 256) = 2688
			g := group(put(text(8, n), text(256, n)))
			puts(t, x, g)
			m = m.with(g)
		}
		if flushed > 0 {
			flushes(t, x, 5*flushed-2)
		}
		is(t, "Cost", x.Cost(), x.Limit())
		for _, c := range []struct {
			g    []api.Node
			want api.Errno
		}{
			{group(put("x", "")), api.ENOSPC},
			{group(put(text(8, 3), text(256, 33))), api.OK},
			{group(gone("x")), api.OK},
			{group(gone(text(8, 4)), put("x", "")), api.OK},
			{group(put(text(8, 4), text(190, 5))), api.OK}, // 66 + 270 = 336
			{group(put("y", "")), api.ENOSPC},
			{group(put("x", text(1, 1))), api.ENOSPC},
			{group(gone("x"), put("y", "")), api.OK},
			{group(gone("y")), api.OK},
			{group(put("y", "1")), api.ENOSPC},
			{group(put("y", "")), api.OK},
		} {
			what := fmt.Sprintf("Put of %.60s", fmt.Sprint(c.g))
			is(t, what, x.Put(c.g), c.want)
			if c.want == api.OK {
				m = m.with(c.g)
			}
			m.held(t, what, x)
		}
		is(t, "Sync", x.Sync(), api.OK)
		m.held(t, "synced", x)
	}
}

// asleep: without power nothing is told, of what waits and of what is kept neither.
func asleep(t *testing.T, what string, x *Cache) {
	t.Helper()
	waiting, cost := x.Waiting(), x.Cost()
	for _, key := range []string{"waits", "is kept", "is gone", "is not there", "is in the store"} {
		is(t, what+": Get", got(x, key), fmt.Sprintf(failed, api.ENXIO))
	}
	for _, most := range []int{0, 9} {
		l, errno := x.Range("", "", most)
		is(t, what+": Range", fmt.Sprint(len(l), errno), fmt.Sprint(0, api.ENXIO))
	}
	for _, g := range [][]api.Node{group(put("a", "1")), group(put("a", text(256, 1))), group(gone("waits"))} {
		is(t, what+": Put", x.Put(g), api.ENXIO)
	}
	more, errno := x.Flush()
	is(t, what+": Flush", fmt.Sprint(more, errno), fmt.Sprint(false, api.ENXIO))
	is(t, what+": Sync", x.Sync(), api.ENXIO)
	is(t, what+": Waiting", x.Waiting(), waiting)
	is(t, what+": Cost", x.Cost(), cost)
	is(t, what+": Get of no key", got(x, ""), fmt.Sprintf(failed, api.EINVAL))
	_, errno = x.Range("", "", -1)
	is(t, what+": Range of less than none", errno, api.EINVAL)
}

// TestPower: ENXIO while the power is off, and as long as the store is that of before.
func TestPower(t *testing.T) {
	x := empty(t)
	c := x.Store().Chip()
	puts(t, x, group(put("is kept", "1"), put("is in the store", "2")))
	is(t, "Sync", x.Sync(), api.OK)
	is(t, "Get", got(x, "is kept"), told("1"))
	puts(t, x, group(put("waits", "3")), group(gone("is gone")))
	for x.Cost()+space.Node("waits", text(256, 1)) < x.Limit() {
		puts(t, x, group(put(fmt.Sprint("x", x.Waiting()), text(256, 1))))
	}
	arm(t, c, api.Fault{At: 1, Kind: api.Cut})
	is(t, "Sync", x.Sync(), api.ENXIO)
	is(t, "On", c.On(), false)
	asleep(t, "off", x)
	c.Power()
	asleep(t, "on again", x)
	model{"is kept": "1", "is in the store": "2"}.held(t, "mounted", mounted(t, c))
}

// TestOffWithNothingWaiting: Flush has nothing to do then; Sync asks the store.
func TestOffWithNothingWaiting(t *testing.T) {
	x := empty(t)
	arm(t, x.Store().Chip(), api.Fault{At: 1, Kind: api.Cut})
	puts(t, x, group(put("a", "1")))
	is(t, "Sync", x.Sync(), api.ENXIO)
	x = New(x.Store())
	more, errno := x.Flush()
	is(t, "Flush", fmt.Sprint(more, errno), fmt.Sprint(false, api.OK))
	is(t, "Sync", x.Sync(), api.ENXIO)
}

// TestGet: P1902: what waits, what is in the store, what is gone in one of them; wrong keys.
func TestGet(t *testing.T) {
	x := empty(t)
	puts(t, x, group(put("a", "1"), put("b", "2"), put("c", "")))
	flushes(t, x, 1)
	long := text(api.MaxKey, 7)
	puts(t, x, group(gone("a"), put("d", "4")), group(put("b", "22"), put(long, text(api.MaxValue, 1))), group(gone("d"), put("e", "5")), group(put("a", "11")), group(put("e", "")))
	for range 6 {
		for _, c := range []struct{ key, want string }{
			{"a", told("11")}, {"b", told("22")}, {"c", told("")}, {"d", none}, {"e", told("")}, {long, told(text(api.MaxValue, 1))},
			{"f", none}, {"aa", none}, {"A", none}, {"\x00", none}, {"\xff", none}, {long[1:], none},
			{"", fmt.Sprintf(failed, api.EINVAL)}, {long + "1", fmt.Sprintf(failed, api.EINVAL)}, {strings.Repeat("a", 1000), fmt.Sprintf(failed, api.EINVAL)},
		} {
			is(t, fmt.Sprintf("Get(%q) with %d waiting", c.key, x.Waiting()), got(x, c.key), c.want)
		}
		x.Flush()
	}
	is(t, "Waiting", x.Waiting(), 0)
}

// TestRange: P1902: each from, to and most over keys of which some wait, some are in the store, some in both, some gone.
func TestRange(t *testing.T) {
	x := empty(t)
	puts(t, x, group(put("b", "1"), put("d", "2"), put("dd", "3"), put("f", "4"), put("h", "5"), put("j", "6")))
	flushes(t, x, 1)
	puts(t, x, group(gone("b"), put("c", "7"), put("d", "22")), group(gone("f"), gone("g"), put("i", "8")), group(put("d\x00", "9"), put("z", "10"), gone("j"), put("\x00", "11")), group(put("f", "44"), put("g", "12")), group(gone("f"), gone("zz")))
	m := model{"\x00": "11", "c": "7", "d": "22", "d\x00": "9", "dd": "3", "g": "12", "h": "5", "i": "8", "z": "10"}
	ends := []string{"", "\x00", "\x00\x00", "a", "b", "b\x00", "c", "d", "d\x00", "d\x00\x00", "dc", "dd", "e", "f", "f\x00", "g", "h", "i", "j", "k", "z", "zz", "zzz", "\xff", text(api.MaxKey, 1) + "1"}
	for range 6 {
		for _, from := range ends {
			for _, to := range ends {
				for _, most := range []int{0, 1, 2, 3, 5, 8, 9, 10, math.MaxInt} {
					ranges(t, fmt.Sprint(x.Waiting(), " waiting"), x, from, to, most, m.nodes(from, to, most))
				}
				for _, most := range []int{-1, math.MinInt} {
					l, errno := x.Range(from, to, most)
					is(t, "Range of less than none", fmt.Sprint(len(l), errno), fmt.Sprint(0, api.EINVAL))
				}
			}
		}
		x.Flush()
		x.Evict(x.Waiting())
	}
	is(t, "Waiting", x.Waiting(), 0)
}

// TestHanded: what is handed in is not changed and not kept, what is handed out is new.
func TestHanded(t *testing.T) {
	x := empty(t)
	puts(t, x, group(put("s", "0"), put("t", "0")))
	flushes(t, x, 1)
	g := append(make([]api.Node, 0, 9), put("b", "1"), put("a", "2"), gone("t"))
	spare := g[:9]
	puts(t, x, g)
	is(t, "g", slices.Equal(spare, append(group(put("b", "1"), put("a", "2"), gone("t")), make([]api.Node, 6)...)), true)
	for i := range spare {
		spare[i] = put("c", "3")
	}
	m := model{"a": "2", "b": "1", "s": "0"}
	m.held(t, "behind writing into g", x)
	for _, most := range []int{1, 2, everything} {
		l := ranged(t, "handed out", x, "", "", most)
		one := ranged(t, "handed out again", x, "", "", most)
		for i := range l[:cap(l)] {
			l[:cap(l)][i] = put("d", "4")
		}
		is(t, "another Range's", slices.Equal(one, m.nodes("", "", most)), true)
		m.held(t, "behind writing into what was handed out", x)
	}
	is(t, "Sync", x.Sync(), api.OK)
	m.held(t, "synced", x)
	m.held(t, "mounted", mounted(t, x.Store().Chip()))
}
