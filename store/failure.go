package store

import (
	"errors"

	"pumice/api"
)

// failure: where something went wrong, and what it came of.
type failure struct {
	where string
	cause error
}

func (f *failure) Error() string { return f.where + ": " + f.cause.Error() }

func (f *failure) Unwrap() error { return f.cause }

// failed: the first of some answers that is not OK; nil, if nothing is wrong.
func failed(where string, answers ...api.Errno) error {
	for _, errno := range answers {
		if errno != api.OK {
			return &failure{where, errno}
		}
	}
	return nil
}

// told: what a method says of an error. Whatever else those below say comes of what others did to the chip.
func told(err error) api.Errno {
	switch {
	case err == nil:
		return api.OK
	case errors.Is(err, api.ENXIO):
		return api.ENXIO
	case errors.Is(err, api.EROFS):
		return api.EROFS
	}
	return api.EIO
}

// unmounted: what Mount says of an error. Whatever else it comes of, it means that no store stands there.
func unmounted(err error) api.Errno {
	switch errno := errnoOf(err); errno {
	case api.EFAULT, api.ENXIO, api.EIO:
		return errno
	}
	return api.EUCLEAN
}

// errnoOf: the errno that an error wraps.
func errnoOf(err error) (errno api.Errno) {
	errors.As(err, &errno)
	return errno
}
