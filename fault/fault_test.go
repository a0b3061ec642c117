package fault

import (
	"errors"
	"fmt"
	"math"
	"slices"
	"strings"
	"testing"

	"pumice/api"
)

// deepest: parts nested in one another, as far as the document promises anything.
const deepest = 1 << 16

// strange: an error of another package, which wraps nothing.
var strange = errors.New("strange")

// around: an error of another package that wraps one.
type around struct{ inner error }

func (a *around) Error() string { return "around " + a.inner.Error() }
func (a *around) Unwrap() error { return a.inner }

// lists: an error of another package that can't be held against another one by ==.
type lists []string

func (l lists) Error() string { return strings.Join(l, ",") }

// says: an error of another package that tells by a method of its own what it is.
type says struct{ errno api.Errno }

func (s says) Error() string { return "says" }

func (s says) As(target any) bool {
	e, ok := target.(*api.Errno)
	if ok {
		*e = s.errno
	}
	return ok
}

// liar: an error of another package that claims to be all things.
type liar struct{}

func (liar) Error() string { return "liar" }
func (liar) As(any) bool   { return true }

// nilError: a nil *Error as an error, which is not nil.
func nilError() error { return (*Error)(nil) }

// panics: an error of another package whose methods all panic.
func panics() error { return (*around)(nil) }

func is[T comparable](t *testing.T, what string, got, want T) {
	t.Helper()
	if got != want {
		t.Errorf("%s: %v, not %v", what, got, want)
	}
}

func did(t *testing.T, what string, err error, want ...string) {
	t.Helper()
	if got := Ops(err); !slices.Equal(got, want) {
		t.Errorf("Ops of %s: %q, not %q", what, got, want)
	}
}

// nested: e, wrapped so many times, without Wrap.
func nested(e error, times int) error {
	for range times {
		e = &Error{Op: "o", What: "w", Err: e}
	}
	return e
}

// F4.1

func TestWrap(t *testing.T) {
	for _, c := range []struct {
		what string
		err  error
		none bool
	}{
		{"nil", nil, true},
		{"OK", api.OK, true},
		{"an *Error of OK", &Error{"a", "b", api.OK}, true},
		{"another package's error of OK", &around{api.OK}, true},
		{"an *Error of another's of OK", &Error{"a", "b", &around{api.OK}}, true},
		{"OK ahead of another one", errors.Join(api.OK, api.EIO), true},
		{"another one ahead of OK", errors.Join(api.EIO, api.OK), false},
		{"EPERM", api.EPERM, false},
		{"EUCLEAN", api.EUCLEAN, false},
		{"an errno that api does not name", api.Errno(7777), false},
		{"a number below 0", api.Errno(-1), false},
		{"another package's error", strange, false},
		{"another's that can't be compared", lists{"a"}, false},
		{"a nil *Error", nilError(), false},
		{"an *Error of nil", &Error{"a", "b", nil}, false},
		{"one that panics", panics(), false},
	} {
		got := Wrap("op", "what", c.err)
		if c.none {
			is(t, "Wrap of "+c.what+" is nil", got == nil, true)
			continue
		}
		e, ok := got.(*Error)
		if !ok || e == nil {
			t.Errorf("Wrap of %s: %v, no *Error", c.what, got)
			continue
		}
		is(t, "Op of "+c.what, e.Op, "op")
		is(t, "What of "+c.what, e.What, "what")
		if fmt.Sprintf("%T %p", e.Err, e.Err) != fmt.Sprintf("%T %p", c.err, c.err) {
			t.Errorf("Err of %s: %T, not %T", c.what, e.Err, c.err)
		}
	}
}

func TestWrapIsNew(t *testing.T) {
	first, second := Wrap("a", "b", api.EIO), Wrap("a", "b", api.EIO)
	first.(*Error).Op = "changed"
	is(t, "another Wrap's text", second.Error(), "a b : pumice error 5")
	outer := Wrap("c", "d", second)
	did(t, "what was wrapped", second, "a")
	did(t, "the wrapping", outer, "c", "a")
}

func TestErrorText(t *testing.T) {
	for _, c := range []struct {
		err  *Error
		want string
	}{
		{&Error{"open", "/a", api.ENOENT}, "open /a : pumice error 2"},
		{&Error{"walk", "", &Error{"read", "b", api.EIO}}, "walk : read b : pumice error 5"},
		{&Error{"walk", "w", &Error{"read", "", api.EIO}}, "walk w : read : pumice error 5"},
		{&Error{"a", "", api.OK}, "a : pumice error 0"},
		{&Error{"a", "", api.Errno(7777)}, "a : pumice error 7777"},
		{&Error{"a", "b", strange}, "a b : strange"},
		{&Error{"a", "b", lists{"c", "d"}}, "a b : c,d"},
		{&Error{"a", "b", &around{&Error{"c", "d", api.EIO}}}, "a b : around c d : pumice error 5"},
		{&Error{"a", "b", &around{strange}}, "a b : around strange"},
		{&Error{"", "", api.EIO}, " : pumice error 5"},
		{&Error{"", "b", api.EIO}, " b : pumice error 5"},
		{&Error{" ", " ", api.EIO}, "    : pumice error 5"},
		{&Error{"a:", ": \x00\xff", api.EIO}, "a: : \x00\xff : pumice error 5"},
		{&Error{"a", "b", nil}, "a b : "},
		{&Error{"a", "", nil}, "a : "},
		{&Error{"a", "b", &Error{"c", "", nil}}, "a b : c : "},
		{&Error{}, " : "},
		{nil, ""},
		{&Error{"a", "b", nilError()}, "a b : "},
		{&Error{"a", "b", &Error{"c", "", nilError()}}, "a b : c : "},
		{&Error{"a", "b", panics()}, "a b : "},
	} {
		if got := c.err.Error(); got != c.want {
			t.Errorf("Error of %#v: %q, not %q", c.err, got, c.want)
		}
	}
}

func TestUnwrap(t *testing.T) {
	inner := &Error{"c", "d", api.EIO}
	for _, err := range []error{api.EIO, api.OK, api.Errno(-1), strange, inner, nilError(), nil} {
		e := &Error{"a", "b", err}
		is(t, fmt.Sprintf("Unwrap of an *Error of %v", err), e.Unwrap(), err)
	}
	is(t, "Unwrap of a nil *Error", (*Error)(nil).Unwrap(), nil)
}

func TestOf(t *testing.T) {
	for _, c := range []struct {
		what string
		err  error
		want api.Errno
	}{
		{"nil", nil, api.OK},
		{"OK", api.OK, api.OK},
		{"ENOENT", api.ENOENT, api.ENOENT},
		{"an errno that api does not name", api.Errno(7777), 7777},
		{"a number below 0", api.Errno(-1), -1},
		{"the least number", api.Errno(math.MinInt), math.MinInt},
		{"the greatest number", api.Errno(math.MaxInt), math.MaxInt},
		{"an *Error", &Error{"a", "b", api.EROFS}, api.EROFS},
		{"an *Error of OK", &Error{"a", "b", api.OK}, api.OK},
		{"an *Error of an *Error", &Error{"a", "b", &Error{"c", "d", api.ELOOP}}, api.ELOOP},
		{"an *Error of a number below 0", &Error{"a", "b", api.Errno(-2)}, -2},
		{"another package's error", strange, api.EIO},
		{"an *Error of another package's", &Error{"a", "b", strange}, api.EIO},
		{"another's that can't be compared", lists{"a"}, api.EIO},
		{"another's around an errno", &around{api.EBUSY}, api.EBUSY},
		{"another's around an *Error", &around{&Error{"a", "b", api.EBUSY}}, api.EBUSY},
		{"an *Error of another's around an errno", &Error{"a", "b", &around{api.EBUSY}}, api.EBUSY},
		{"the library's around an errno", fmt.Errorf("x: %w", api.EMLINK), api.EMLINK},
		{"joined ones", errors.Join(strange, &Error{"a", "b", api.EEXIST}, api.EPERM), api.EEXIST},
		{"one that says what it is", &Error{"a", "b", says{api.EFBIG}}, api.EFBIG},
		{"a nil *Error", nilError(), api.EIO},
		{"an *Error of nil", &Error{"a", "b", nil}, api.EIO},
		{"an *Error of a nil *Error", &Error{"a", "b", nilError()}, api.EIO},
		{"a pointer to an errno that is nil", (*api.Errno)(nil), api.EIO},
		{"one that panics", panics(), api.EIO},
		{"an *Error of one that panics", &Error{"a", "b", panics()}, api.EIO},
	} {
		is(t, "Of "+c.what, Of(c.err), c.want)
	}
}

func TestOps(t *testing.T) {
	did(t, "nil", nil)
	did(t, "an errno", api.EIO)
	did(t, "another package's error", strange)
	did(t, "a nil *Error", nilError())
	did(t, "one that panics", panics())
	did(t, "an *Error", &Error{"a", "b", api.EIO}, "a")
	did(t, "an *Error of nil", &Error{"a", "b", nil}, "a")
	did(t, "an *Error of OK", &Error{"a", "b", api.OK}, "a")
	did(t, "an *Error without Op", &Error{"", "b", &Error{"c", "", api.EIO}}, "", "c")
	did(t, "three", &Error{"a", "", &Error{"b", "", &Error{"a", "", strange}}}, "a", "b", "a")
	did(t, "one behind another package's", &Error{"a", "", &around{&Error{"b", "", api.EIO}}}, "a", "b")
	did(t, "another package's around one", &around{&around{&Error{"b", "", nil}}}, "b")
	did(t, "one of a nil *Error", &Error{"a", "", nilError()}, "a")
	did(t, "one of one that panics", &Error{"a", "", panics()}, "a")
	did(t, "one of one that claims to be all things", &Error{"a", "", liar{}}, "a")
}

func TestOpsIsNew(t *testing.T) {
	err := Wrap("a", "", Wrap("b", "", api.EIO))
	ops := Ops(err)
	ops = ops[:cap(ops)]
	for i := range ops {
		ops[i] = "scribbled"
	}
	did(t, "the same error", err, "a", "b")
}

// P401

func TestWrappedOften(t *testing.T) {
	for _, errno := range []api.Errno{api.EPERM, api.ENXIO, api.EUCLEAN, 7777, -1, math.MinInt} {
		err, ops, text := error(errno), []string{}, errno.Error()
		for i := range 300 {
			op, what := fmt.Sprint("op", i), []string{"", "what"}[i%2]
			err = Wrap(op, what, err)
			ops = append([]string{op}, ops...)
			text = strings.TrimSuffix(op+" "+what, " ") + " : " + text
			if i%7 == 0 {
				err = &around{err}
				text = "around " + text
			}
			is(t, "Is", errors.Is(err, errno), true)
			is(t, "Is another one", errors.Is(err, api.EBUSY), false)
			is(t, "Of", Of(err), errno)
			is(t, "Error", err.Error(), text)
			did(t, text, err, ops...)
		}
	}
}

func TestWrappedDeepest(t *testing.T) {
	err := Wrap("top", "", nested(api.ENOSPC, deepest-2))
	is(t, "Is", errors.Is(err, api.ENOSPC), true)
	is(t, "Of", Of(err), api.ENOSPC)
	is(t, "Error", err.Error(), "top : "+strings.Repeat("o w : ", deepest-2)+"pumice error 28")
	ops := Ops(err)
	is(t, "how many Ops", len(ops), deepest-1)
	is(t, "first of Ops", ops[0], "top")
	is(t, "last of Ops", ops[len(ops)-1], "o")
	is(t, "Wrap of a deep OK is nil", Wrap("top", "", nested(api.OK, deepest-2)) == nil, true)
}
