package index

import (
	"errors"
	"strconv"

	"pumice/api"
	"pumice/ebm"
	"pumice/image"
	"pumice/wbuf"
)

// failure: where something went wrong, and what it came of.
type failure struct {
	at    image.Place
	cause error
}

func (f *failure) Error() string {
	return "node at " + strconv.Itoa(f.at.Leb) + ", " + strconv.Itoa(f.at.Pos) + ": " + f.cause.Error()
}

func (f *failure) Unwrap() error { return f.cause }

// failed: nil, if nothing is wrong.
func failed(at image.Place, errno api.Errno) error {
	if errno == api.OK {
		return nil
	}
	return &failure{at, errno}
}

// told: what a call says of an error. Whatever else those below say, it means that what should stand on the chip does not.
func told(err error) api.Errno {
	if err == nil {
		return api.OK
	}
	for _, errno := range []api.Errno{api.ENXIO, api.EROFS, api.ENOSPC} {
		if errors.Is(err, errno) {
			return errno
		}
	}
	return api.EUCLEAN
}

// off: is the power off, or was it since the manager was attached? Each read is asked for that first.
func off(m *ebm.Manager) bool {
	_, errno := m.Read(0, 0)
	return errno == api.ENXIO
}

// looker: reads nodes for one call. The logs that it opened are kept for that call alone: others may change the chip behind it.
type looker struct {
	m    *ebm.Manager
	logs map[int]*wbuf.Log
}

func look(m *ebm.Manager) *looker { return &looker{m: m, logs: map[int]*wbuf.Log{}} }

// kid: the node below a slot, which is read when it is asked for first, and the key behind all of its keys; asked with the key behind those of the node above. (An empty key: nothing stands behind them.)
func (l *looker) kid(n *node, i int, end string) (*node, string, error) {
	if i+1 < len(n.Slots) {
		end = n.Slots[i+1].Key
	}
	if n.kids[i] != nil {
		return n.kids[i], end, nil
	}
	at := n.Slots[i].At
	kid, err := l.load(at)
	switch {
	case err != nil:
		return nil, "", err
	case kid.Level != n.Level-1 || !kid.between(n.Slots[i].Key, end):
		return nil, "", failed(at, api.EUCLEAN)
	}
	n.kids[i] = kid
	return kid, end, nil
}

// load: the node that stands at a place.
func (l *looker) load(at image.Place) (*node, error) {
	payload, errno := l.payload(at)
	if errno != api.OK {
		return nil, failed(at, errno)
	}
	i, ok := image.Unpack(payload)
	if !ok || image.Size(i) != at.Size {
		return nil, failed(at, api.EUCLEAN)
	}
	return &node{Image: i, kids: make([]*node, len(i.Slots))}, nil
}

// payload: of the frame that begins at a place.
func (l *looker) payload(at image.Place) ([]byte, api.Errno) {
	if off(l.m) {
		return nil, api.ENXIO
	}
	log := l.logs[at.Leb]
	if log == nil {
		opened, errno := wbuf.Open(l.m, at.Leb)
		if errno != api.OK {
			return nil, errno
		}
		log = opened
		l.logs[at.Leb] = log
	}
	return log.Read(at.Pos)
}
