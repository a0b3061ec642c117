package fault

import (
	"cmp"
	"strconv"

	"pumice/api"
)

// lastClass: of all errnos that no other class has.
const lastClass = 6

// Class: of which class an errno is.
func Class(e api.Errno) int {
	class := lastClass
	// The classes stand in their order, so that each is one less than that behind it.
	switch e {
	case api.OK:
		class--
		fallthrough
	case api.EIO, api.ENXIO, api.EUCLEAN, api.ENODEV: // the medium
		class--
		fallthrough
	case api.EINVAL, api.EFAULT, api.EBADF, api.ENAMETOOLONG, api.ELOOP: // an argument
		class--
		fallthrough
	case api.ENOSPC, api.EFBIG, api.EMFILE, api.EMLINK: // room
		class--
		fallthrough
	case api.EPERM, api.EACCES, api.EROFS: // rights
		class--
		fallthrough
	case api.ENOENT, api.EEXIST, api.ENOTDIR, api.EISDIR, api.ENOTEMPTY, api.EBUSY: // the tree
		class--
	}
	return class
}

// named: an errno and its name.
type named struct {
	errno api.Errno
	name  string
}

// known: all errnos that api names.
func known() []named {
	return []named{
		{api.OK, "OK"},
		{api.EPERM, "EPERM"},
		{api.ENOENT, "ENOENT"},
		{api.EIO, "EIO"},
		{api.ENXIO, "ENXIO"},
		{api.EBADF, "EBADF"},
		{api.EACCES, "EACCES"},
		{api.EFAULT, "EFAULT"},
		{api.EBUSY, "EBUSY"},
		{api.EEXIST, "EEXIST"},
		{api.ENODEV, "ENODEV"},
		{api.ENOTDIR, "ENOTDIR"},
		{api.EISDIR, "EISDIR"},
		{api.EINVAL, "EINVAL"},
		{api.EMFILE, "EMFILE"},
		{api.EFBIG, "EFBIG"},
		{api.ENOSPC, "ENOSPC"},
		{api.EROFS, "EROFS"},
		{api.EMLINK, "EMLINK"},
		{api.ENAMETOOLONG, "ENAMETOOLONG"},
		{api.ENOTEMPTY, "ENOTEMPTY"},
		{api.ELOOP, "ELOOP"},
		{api.EUCLEAN, "EUCLEAN"},
	}
}

// Name: as api names an errno; of others E and the number.
func Name(e api.Errno) string {
	for _, k := range known() {
		if k.errno == e {
			return k.name
		}
	}
	return "E" + strconv.Itoa(int(e))
}

// Find: the errno that api names so.
func Find(name string) (api.Errno, bool) {
	for _, k := range known() {
		if k.name == name {
			return k.errno, true
		}
	}
	return api.OK, false
}

// Worse: that of the lesser class, then of the lesser number; OK is no match for any.
func Worse(a, b api.Errno) api.Errno {
	switch {
	case a == api.OK:
		return b
	case b == api.OK:
		return a
	case cmp.Or(cmp.Compare(Class(a), Class(b)), cmp.Compare(a, b)) <= 0:
		return a
	}
	return b
}

// First: the place of the first that is not OK, and it.
func First(l []api.Errno) (int, api.Errno) {
	for i, e := range l {
		if e != api.OK {
			return i, e
		}
	}
	return -1, api.OK
}
