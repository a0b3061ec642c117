package fault

import (
	"math"
	"slices"
	"strconv"
	"strings"
	"testing"

	"pumice/api"
)

// row: an errno as the document has it.
type row struct {
	errno api.Errno
	name  string
	class int
}

// rows: all errnos that api names.
func rows() []row {
	return []row{
		{0, "OK", 0},
		{5, "EIO", 1}, {6, "ENXIO", 1}, {117, "EUCLEAN", 1}, {19, "ENODEV", 1},
		{22, "EINVAL", 2}, {14, "EFAULT", 2}, {9, "EBADF", 2}, {36, "ENAMETOOLONG", 2}, {40, "ELOOP", 2},
		{28, "ENOSPC", 3}, {27, "EFBIG", 3}, {24, "EMFILE", 3}, {31, "EMLINK", 3},
		{1, "EPERM", 4}, {13, "EACCES", 4}, {30, "EROFS", 4},
		{2, "ENOENT", 5}, {17, "EEXIST", 5}, {20, "ENOTDIR", 5}, {21, "EISDIR", 5}, {39, "ENOTEMPTY", 5}, {16, "EBUSY", 5},
	}
}

// isNamed: does api name this number?
func isNamed(e api.Errno) bool {
	return slices.ContainsFunc(rows(), func(r row) bool { return r.errno == e })
}

// unnamed: numbers that api does not name, at the edges of types and beside those it names.
func unnamed() []api.Errno {
	return []api.Errno{-1, -2, -5, -117, 3, 4, 7, 116, 118, 133, 256, 7777, 65536 + 5, 1<<32 + 5,
		math.MinInt32, math.MaxInt32, math.MinInt, math.MinInt + 1, math.MaxInt}
}

// some: of all kinds of errnos, in the order of Worse, the worst first.
func some() []api.Errno {
	all := unnamed()
	for _, r := range rows() {
		all = append(all, r.errno)
	}
	slices.SortFunc(all, func(a, b api.Errno) int { return rank(a) - rank(b) })
	return all
}

// rank: an errno's place by hand, so that the order does not come out of what is tested.
func rank(e api.Errno) int {
	order := []api.Errno{
		5, 6, 19, 117, // the medium
		9, 14, 22, 36, 40, // an argument
		24, 27, 28, 31, // room
		1, 13, 30, // rights
		2, 16, 17, 20, 21, 39, // the tree
		math.MinInt, math.MinInt + 1, math.MinInt32, -117, -5, -2, -1, 3, 4, 7, 116, 118, 133, 256, 7777,
		65536 + 5, math.MaxInt32, 1<<32 + 5, math.MaxInt,
		api.OK,
	}
	return slices.Index(order, e)
}

// F4.2

func TestClass(t *testing.T) {
	for _, r := range rows() {
		is(t, "Class of "+r.name, Class(r.errno), r.class)
	}
	for _, e := range unnamed() {
		is(t, "Class of "+strconv.Itoa(int(e)), Class(e), 6)
	}
	for e := api.Errno(-300); e <= 300; e++ {
		if !isNamed(e) {
			is(t, "Class of "+strconv.Itoa(int(e)), Class(e), 6)
		}
	}
}

func TestName(t *testing.T) {
	for _, r := range rows() {
		is(t, "Name of "+strconv.Itoa(int(r.errno)), Name(r.errno), r.name)
	}
	for _, c := range []struct {
		errno api.Errno
		want  string
	}{
		{7777, "E7777"}, {3, "E3"}, {118, "E118"}, {100, "E100"}, {-1, "E-1"}, {-5, "E-5"}, {-117, "E-117"},
		{math.MaxInt, "E9223372036854775807"}, {math.MinInt, "E-9223372036854775808"},
	} {
		is(t, "Name", Name(c.errno), c.want)
	}
	for e := api.Errno(-300); e <= 300; e++ {
		if !isNamed(e) {
			is(t, "Name", Name(e), "E"+strconv.Itoa(int(e)))
		}
	}
}

func TestFind(t *testing.T) {
	for _, r := range rows() {
		e, ok := Find(r.name)
		is(t, "Find "+r.name, e, r.errno)
		is(t, "Find "+r.name, ok, true)
	}
	wrong := []string{"", " ", "E", "E0", "E2", "E5", "E7777", "E-1", "0", "5", "ok", "Ok", "EOK", "O", "K", "OKOK",
		"erofs", "Erofs", "EAGAIN", "ENOMEM", "pumice error 5", "\x00", "\xff", "EPERM,EIO", "EIO EIO"}
	for _, r := range rows() {
		wrong = append(wrong, " "+r.name, r.name+" ", r.name+"\x00", r.name[1:], r.name[:len(r.name)-1],
			strings.ToLower(r.name), r.name+"E", "api."+r.name)
	}
	for _, name := range wrong {
		e, ok := Find(name)
		if e != api.OK || ok {
			t.Errorf("Find(%q): %d, %v", name, e, ok)
		}
	}
}

// P402

func TestFindOfName(t *testing.T) {
	for _, e := range []api.Errno{api.OK, api.EPERM, api.ENOENT, api.EIO, api.ENXIO, api.EBADF, api.EACCES, api.EFAULT,
		api.EBUSY, api.EEXIST, api.ENODEV, api.ENOTDIR, api.EISDIR, api.EINVAL, api.EMFILE, api.EFBIG, api.ENOSPC,
		api.EROFS, api.EMLINK, api.ENAMETOOLONG, api.ENOTEMPTY, api.ELOOP, api.EUCLEAN} {
		got, ok := Find(Name(e))
		if got != e || !ok {
			t.Errorf("Find(%q): %d, %v, not %d", Name(e), got, ok, e)
		}
	}
	for _, e := range unnamed() {
		got, ok := Find(Name(e))
		if got != api.OK || ok {
			t.Errorf("Find(%q): %d, %v", Name(e), got, ok)
		}
	}
}

// F4.3

func TestWorse(t *testing.T) {
	for _, c := range []struct{ a, b, want api.Errno }{
		{api.ENOENT, api.EIO, api.EIO},
		{api.OK, api.EINVAL, api.EINVAL},
		{api.EFBIG, api.ENOSPC, api.EFBIG},
		{api.OK, api.OK, api.OK},
		{api.EIO, api.EIO, api.EIO},
		{api.OK, -1, -1},
		{api.OK, 7777, 7777},
		{api.EUCLEAN, api.EPERM, api.EUCLEAN},
		{api.EBUSY, 3, api.EBUSY},
		{api.EBUSY, -3, api.EBUSY},
		{-3, 3, -3},
		{math.MinInt, math.MaxInt, math.MinInt},
		{math.MinInt, -1, math.MinInt},
	} {
		is(t, "Worse", Worse(c.a, c.b), c.want)
		is(t, "Worse", Worse(c.b, c.a), c.want)
	}
	worst := some()
	for i, a := range worst {
		for j, b := range worst {
			is(t, "Worse", Worse(a, b), worst[min(i, j)])
		}
	}
}

// P403

func TestWorseOrder(t *testing.T) {
	all := some()
	for _, a := range all {
		for _, b := range all {
			w := Worse(a, b)
			if w != a && w != b {
				t.Errorf("Worse(%d, %d): %d, none of both", a, b, w)
			}
			is(t, "Worse the other way round", Worse(b, a), w)
			for _, c := range all {
				is(t, "Worse of three", Worse(w, c), Worse(a, Worse(b, c)))
				if w == a && Worse(b, c) == b {
					is(t, "Worse through three", Worse(a, c), a)
				}
			}
		}
	}
}

func TestFirst(t *testing.T) {
	for _, c := range []struct {
		list  []api.Errno
		place int
		errno api.Errno
	}{
		{nil, -1, api.OK},
		{[]api.Errno{}, -1, api.OK},
		{[]api.Errno{api.OK}, -1, api.OK},
		{[]api.Errno{api.OK, api.OK, api.OK}, -1, api.OK},
		{[]api.Errno{api.EIO}, 0, api.EIO},
		{[]api.Errno{api.OK, api.EIO}, 1, api.EIO},
		{[]api.Errno{api.OK, api.ENOENT, api.EIO}, 1, api.ENOENT},
		{[]api.Errno{api.EBUSY, api.OK, api.EIO}, 0, api.EBUSY},
		{[]api.Errno{api.OK, api.OK, -1, 1}, 2, -1},
		{[]api.Errno{api.OK, 7777}, 1, 7777},
		{[]api.Errno{math.MinInt}, 0, math.MinInt},
		{append(make([]api.Errno, 5000), api.EROFS), 5000, api.EROFS},
	} {
		handed := slices.Clone(c.list)
		place, errno := First(c.list)
		if place != c.place || errno != c.errno {
			t.Errorf("First: %d, %d, not %d, %d", place, errno, c.place, c.errno)
		}
		is(t, "the list is as it was", slices.Equal(handed, c.list), true)
	}
	room := []api.Errno{api.OK, api.EIO}
	place, errno := First(room[:1])
	is(t, "First looks into no spare room", place, -1)
	is(t, "First looks into no spare room", errno, api.OK)
}
