package fscore

import (
	"errors"

	"pumice/api"
)

// call: one that is made. What is wrong in it comes up as a panic, so that its steps stand one below the other.
type call struct{ name string }

// failure: what is wrong in a call.
type failure struct {
	call string
	err  error
}

func (f *failure) Error() string { return f.call + ": " + f.err.Error() }

func (f *failure) Unwrap() error { return f.err }

// refuse: the call fails, if it is so.
func (c call) refuse(so bool, errno api.Errno) {
	if so {
		panic(&failure{call: c.name, err: errno})
	}
}

// trust: the call fails, if one below it did.
func (c call) trust(errno api.Errno) { c.refuse(errno != api.OK, errno) }

// work: a call, what it reads, and the group that it gathers.
type work struct {
	view
	builder
}

// put: what was gathered is done, as one group.
func (w *work) put() {
	// Numbers of a sound file system never leave their ranges.
	w.refuse(w.wrong, api.EUCLEAN)
	if len(w.nodes) > 0 {
		w.trust(w.c.Put(w.nodes))
	}
	w.builder = builder{}
}

// answer: what the steps of a call tell; with an error nothing.
func answer[T any](f *Core, name string, steps func(*work) T) (told T, errno api.Errno) {
	if f.Cache() == nil {
		return told, api.EFAULT
	}
	defer func() {
		if wrong := recover(); wrong != nil {
			errno = errnoOf(wrong)
		}
	}()
	return steps(&work{view: view{call: call{name: name}, c: f.c}}), api.OK
}

// do: the steps of a call that tells nothing.
func do(f *Core, name string, steps func(*work)) api.Errno {
	_, errno := answer(f, name, func(w *work) struct{} {
		steps(w)
		return struct{}{}
	})
	return errno
}

// errnoOf: the error in what came up.
func errnoOf(wrong any) api.Errno {
	if err, ok := wrong.(error); ok {
		var errno api.Errno
		if errors.As(err, &errno) {
			return errno
		}
	}
	return api.EUCLEAN // no call panics, whatever made it stumble
}
