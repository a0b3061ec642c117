package fscore

import (
	"maps"
	"slices"
	"strings"

	"pumice/api"
	"pumice/names"
	"pumice/node"
	"pumice/space"
)

// tree: a file system in memory, by the chapter's words.
type tree struct {
	inodes  map[int]api.Inode
	names   map[int]map[string]int // the entries of each number
	blocks  map[int]map[int]string
	orphans map[int]bool
	bytes   map[int]string // what is read of each file: nothing of it hangs on blocks
}

func bareTree() *tree {
	return &tree{map[int]api.Inode{}, map[int]map[string]int{}, map[int]map[int]string{}, map[int]bool{}, map[int]string{}}
}

func rootTree() *tree {
	t := bareTree()
	t.inodes[1] = api.Inode{Ino: 1, Kind: api.Dir, Mode: 0755, Links: 2}
	return t
}

func (t *tree) clone() *tree {
	c := &tree{maps.Clone(t.inodes), map[int]map[string]int{}, map[int]map[int]string{}, maps.Clone(t.orphans), maps.Clone(t.bytes)}
	for ino, m := range t.names {
		c.names[ino] = maps.Clone(m)
	}
	for ino, m := range t.blocks {
		c.blocks[ino] = maps.Clone(m)
	}
	return c
}

// nodes: all of them, in order.
func (t *tree) nodes() []api.Node {
	var l []api.Node
	add := func(n api.Node, errno api.Errno) {
		if errno != api.OK {
			panic(errno)
		}
		l = append(l, n)
	}
	for _, i := range t.inodes {
		add(node.Inode(i))
	}
	for dir, m := range t.names {
		for name, ino := range m {
			add(node.Entry(dir, t.entry(name, ino)))
		}
	}
	for ino, m := range t.blocks {
		for n, b := range m {
			add(node.Block(ino, n, []byte(b)))
		}
	}
	for ino := range t.orphans {
		add(node.Orphan(ino))
	}
	slices.SortFunc(l, func(a, b api.Node) int { return strings.Compare(a.Key, b.Key) })
	return l
}

func (t *tree) entry(name string, ino int) api.Entry {
	return api.Entry{Name: name, Ino: ino, Kind: t.inodes[ino].Kind}
}

func (t *tree) isDir(ino int) bool { return t.inodes[ino].Kind == api.Dir }

// asDir: is it a directory?
func (t *tree) asDir(ino int) api.Errno {
	switch i, ok := t.inodes[ino]; {
	case !ok:
		return api.ENOENT
	case i.Kind != api.Dir:
		return api.ENOTDIR
	}
	return api.OK
}

// asHome: one with Links?
func (t *tree) asHome(ino int) api.Errno {
	errno := t.asDir(ino)
	if errno == api.OK && t.inodes[ino].Links == 0 {
		return api.ENOENT
	}
	return errno
}

// asFile: is it a File?
func (t *tree) asFile(ino int) api.Errno {
	switch i, ok := t.inodes[ino]; {
	case !ok:
		return api.ENOENT
	case i.Kind == api.Dir:
		return api.EISDIR
	case i.Kind == api.Link:
		return api.EINVAL
	}
	return api.OK
}

// below: does a directory lead to another one, or is it that?
func (t *tree) below(ino, dir int) bool {
	for _, child := range t.names[ino] {
		if t.isDir(child) && t.below(child, dir) {
			return true
		}
	}
	return ino == dir
}

// run: a call that is done to a tree.
type run struct {
	*tree
	last   *tree   // behind the last group
	states []*tree // behind each of them
	limit  int
}

// first: the first that is none of OK.
func first(l ...api.Errno) api.Errno {
	for _, errno := range l {
		if errno != api.OK {
			return errno
		}
	}
	return api.OK
}

// when: an error, if it is so.
func when(so bool, errno api.Errno) api.Errno {
	if so {
		return errno
	}
	return api.OK
}

// do: what a call answers, and the trees behind its groups. With an error there is none, but of a call that has more than one.
func (t *tree) do(o op, limit int) (string, []*tree) {
	r := &run{tree: t.clone(), last: t, limit: limit}
	value, errno := r.look(o)
	if errno != api.OK {
		value = o.zero()
	}
	return told(value, errno), r.states
}

// look: calls that look.
func (r *run) look(o op) (any, api.Errno) {
	switch o.call {
	case "stat":
		i, ok := r.inodes[o.ino]
		return i, when(!ok, api.ENOENT)
	case "lookup":
		ino, ok := r.names[o.ino][o.name]
		return r.entry(o.name, ino), first(r.asDir(o.ino), names.Right(o.name), when(!ok, api.ENOENT))
	case "readdir":
		l := []api.Entry{}
		for _, name := range names.Sort(slices.Collect(maps.Keys(r.names[o.ino]))) {
			l = append(l, r.entry(name, r.names[o.ino][name]))
		}
		return l, r.asDir(o.ino)
	case "read":
		if errno := first(r.asFile(o.ino), when(o.at < 0 || o.n < 0, api.EINVAL)); errno != api.OK {
			return nil, errno
		}
		b := r.bytes[o.ino]
		b = b[min(o.at, len(b)):]
		return b[:min(o.n, len(b))], api.OK
	case "readlink":
		i, ok := r.inodes[o.ino]
		return r.bytes[o.ino], first(when(!ok, api.ENOENT), when(i.Kind != api.Link, api.EINVAL))
	case "orphans":
		return slices.Sorted(maps.Keys(r.orphans)), api.OK
	}
	return r.change(o)
}

// change: calls that change.
func (r *run) change(o op) (any, api.Errno) {
	switch o.call {
	case "make":
		if _, ok := r.inodes[1]; ok {
			return nothing, api.EEXIST
		}
		r.inodes = rootTree().inodes
		return nothing, r.group()
	case "create":
		return r.create(o)
	case "link":
		return nothing, r.link(o)
	case "unlink":
		return r.unlink(o)
	case "rmdir":
		return r.rmdir(o)
	case "rename":
		return r.rename(o)
	case "write":
		return r.write(o)
	case "truncate":
		return nothing, r.truncate(o)
	case "set":
		return nothing, r.set(o.i)
	case "purge":
		return nothing, r.purge(o.ino)
	case "recover":
		for _, ino := range slices.Sorted(maps.Keys(r.orphans)) {
			if errno := r.purge(ino); errno != api.OK {
				return nothing, errno
			}
		}
		return nothing, api.OK
	}
	panic("no call " + o.call)
}

// group: what was changed since the last one is put.
func (r *run) group() api.Errno {
	was, now := space.Nodes(r.last.nodes()), space.Nodes(r.nodes())
	if now > r.limit && now > was {
		return api.ENOSPC
	}
	r.last = r.clone()
	r.states = append(r.states, r.last)
	return api.OK
}

func rightOwner(i api.Inode) bool {
	return 0 <= i.Mode && i.Mode <= 511 && 0 <= i.Uid && i.Uid <= 65535 && 0 <= i.Gid && i.Gid <= 65535
}

func (r *run) name(dir int, name string, ino int) {
	if r.names[dir] == nil {
		r.names[dir] = map[string]int{}
	}
	r.names[dir][name] = ino
}

func (r *run) links(ino, more int) {
	i := r.inodes[ino]
	i.Links += more
	r.inodes[ino] = i
}

func (r *run) create(o op) (int, api.Errno) {
	_, there := r.names[o.ino][o.name]
	isLink, isDir := o.i.Kind == api.Link, o.i.Kind == api.Dir
	errno := first(r.asHome(o.ino), names.Right(o.name), when(there, api.EEXIST),
		when(o.i.Kind < 1 || o.i.Kind > 3 || !rightOwner(o.i), api.EINVAL),
		when(isLink && o.text == "", api.ENOENT), when(isLink && len(o.text) > 255, api.ENAMETOOLONG), when(!isLink && o.text != "", api.EINVAL),
		when(isDir && r.inodes[o.ino].Links == 100, api.EMLINK))
	if errno != api.OK {
		return 0, errno
	}
	ino := 1
	for r.inodes[ino].Ino != 0 || r.orphans[ino] {
		ino++
	}
	if ino > 4096 {
		return 0, api.ENOSPC
	}
	i := api.Inode{Ino: ino, Kind: o.i.Kind, Mode: o.i.Mode, Uid: o.i.Uid, Gid: o.i.Gid, Links: 1}
	if isDir {
		i.Links = 2
		r.links(o.ino, 1)
	}
	i.Size = len(o.text)
	r.inodes[ino] = i
	r.name(o.ino, o.name, ino)
	r.bytes[ino] = o.text
	r.blocks[ino] = map[int]string{}
	for n := 0; n < len(o.text); n += 128 {
		r.blocks[ino][n/128] = o.text[n:min(n+128, len(o.text))]
	}
	return ino, r.group()
}

func (r *run) link(o op) api.Errno {
	i, ok := r.inodes[o.ino]
	_, there := r.names[o.to][o.name]
	errno := first(when(!ok, api.ENOENT), when(i.Kind == api.Dir, api.EPERM), when(i.Links == 0, api.ENOENT), r.asHome(o.to), names.Right(o.name), when(there, api.EEXIST), when(i.Links == 100, api.EMLINK))
	if errno != api.OK {
		return errno
	}
	r.links(o.ino, 1)
	r.name(o.to, o.name, o.ino)
	return r.group()
}

// drop: an inode loses a name.
func (r *run) drop(ino int) Gone {
	if r.isDir(ino) {
		r.links(ino, 1-r.inodes[ino].Links)
	}
	r.links(ino, -1)
	if r.inodes[ino].Links == 0 {
		r.orphans[ino] = true
	}
	return Gone{Ino: ino, Last: r.inodes[ino].Links == 0}
}

func (r *run) unlink(o op) (Gone, api.Errno) {
	ino, there := r.names[o.ino][o.name]
	errno := first(r.asDir(o.ino), names.Right(o.name), when(!there, api.ENOENT), when(r.isDir(ino), api.EISDIR))
	if errno != api.OK {
		return Gone{}, errno
	}
	delete(r.names[o.ino], o.name)
	return r.drop(ino), r.group()
}

func (r *run) rmdir(o op) (Gone, api.Errno) {
	ino, there := r.names[o.ino][o.name]
	errno := first(r.asDir(o.ino), names.Right(o.name), when(!there, api.ENOENT), when(!r.isDir(ino), api.ENOTDIR), when(len(r.names[ino]) > 0, api.ENOTEMPTY))
	if errno != api.OK {
		return Gone{}, errno
	}
	delete(r.names[o.ino], o.name)
	r.links(o.ino, -1)
	return r.drop(ino), r.group()
}

func (r *run) rename(o op) (Gone, api.Errno) {
	ino, there := r.names[o.ino][o.name]
	errno := first(r.asDir(o.ino), names.Right(o.name), r.asHome(o.to), names.Right(o.other), when(!there, api.ENOENT))
	was, over := r.names[o.to][o.other]
	if errno != api.OK || over && was == ino {
		return Gone{}, errno
	}
	dir := r.isDir(ino)
	errno = first(when(dir && r.below(ino, o.to), api.EINVAL),
		when(over && dir && !r.isDir(was), api.ENOTDIR), when(over && !dir && r.isDir(was), api.EISDIR), when(over && len(r.names[was]) > 0, api.ENOTEMPTY),
		when(dir && o.ino != o.to && r.inodes[o.to].Links == 100 && !over, api.EMLINK))
	if errno != api.OK {
		return Gone{}, errno
	}
	var gone Gone
	if over {
		if r.isDir(was) {
			r.links(o.to, -1)
		}
		gone = r.drop(was)
	}
	if dir {
		r.links(o.ino, -1)
		r.links(o.to, 1)
	}
	delete(r.names[o.ino], o.name)
	r.name(o.to, o.other, ino)
	return gone, r.group()
}

func (r *run) resize(ino, size int) {
	i := r.inodes[ino]
	i.Size = size
	r.inodes[ino] = i
	b := r.bytes[ino]
	r.bytes[ino] = (b + strings.Repeat("\x00", max(size-len(b), 0)))[:size]
}

// write: byte by byte.
func (r *run) write(o op) (int, api.Errno) {
	errno := first(r.asFile(o.ino), when(o.at < 0 || len(o.text) > 512, api.EINVAL), when(o.at > 16384 || o.at+len(o.text) > 16384, api.EFBIG))
	if errno != api.OK || o.text == "" {
		return 0, errno
	}
	end := o.at + len(o.text)
	r.resize(o.ino, max(end, r.inodes[o.ino].Size))
	b := r.bytes[o.ino]
	r.bytes[o.ino] = b[:o.at] + o.text + b[end:]
	for n := range len(o.text) {
		block, at := (o.at+n)/128, (o.at+n)%128
		value := r.blocks[o.ino][block]
		if len(value) <= at {
			value += strings.Repeat("\x00", at+1-len(value))
		}
		r.blocks[o.ino][block] = value[:at] + o.text[n:n+1] + value[at+1:]
	}
	return len(o.text), r.group()
}

// blocksFrom: the numbers of the blocks that begin at that byte, or behind it.
func (r *run) blocksFrom(ino, at int) []int {
	l := slices.Sorted(maps.Keys(r.blocks[ino]))
	return slices.DeleteFunc(l, func(n int) bool { return n*128 < at })
}

// without: these blocks are taken out.
func (r *run) without(ino int, l []int) {
	for _, n := range l {
		delete(r.blocks[ino], n)
	}
}

func (r *run) truncate(o op) api.Errno {
	errno := first(r.asFile(o.ino), when(o.n < 0, api.EINVAL), when(o.n > 16384, api.EFBIG))
	if errno != api.OK || o.n == r.inodes[o.ino].Size {
		return errno
	}
	less := o.n < r.inodes[o.ino].Size
	r.resize(o.ino, o.n)
	if !less {
		return r.group()
	}
	if value := r.blocks[o.ino][o.n/128]; o.n%128 > 0 && len(value) > o.n%128 {
		r.blocks[o.ino][o.n/128] = value[:o.n%128]
	}
	l := r.blocksFrom(o.ino, o.n)
	if len(l) <= 13 {
		r.without(o.ino, l)
		return r.group()
	}
	r.without(o.ino, l[:13])
	r.orphans[o.ino] = true
	if errno := r.group(); errno != api.OK {
		return errno
	}
	for l = l[13:]; len(l) > 13; l = l[14:] {
		r.without(o.ino, l[:14])
		if errno := r.group(); errno != api.OK {
			return errno
		}
	}
	if r.inodes[o.ino].Links == 0 {
		r.without(o.ino, l)
		return r.groupOf(len(l))
	}
	r.without(o.ino, l)
	delete(r.orphans, o.ino)
	return r.group()
}

// groupOf: a group, if it has any nodes.
func (r *run) groupOf(nodes int) api.Errno {
	if nodes == 0 {
		return api.OK
	}
	return r.group()
}

func (r *run) set(i api.Inode) api.Errno {
	was, ok := r.inodes[i.Ino]
	if errno := first(when(!rightOwner(i), api.EINVAL), when(!ok, api.ENOENT)); errno != api.OK {
		return errno
	}
	now := was
	now.Mode, now.Uid, now.Gid = i.Mode, i.Uid, i.Gid
	if now == was {
		return api.OK
	}
	r.inodes[i.Ino] = now
	return r.group()
}

func (r *run) purge(ino int) api.Errno {
	if ino < 1 || ino > 4096 {
		return api.EINVAL
	}
	if !r.orphans[ino] {
		return api.OK
	}
	i, there := r.inodes[ino]
	var l []int
	last := 13
	switch {
	case there && i.Links == 0:
		l, last = r.blocksFrom(ino, 0), 12
		defer func() { delete(r.bytes, ino) }()
	case there:
		l = r.blocksFrom(ino, i.Size)
	}
	for len(l) > last {
		n := min(14, len(l))
		r.without(ino, l[:n])
		if errno := r.group(); errno != api.OK {
			return errno
		}
		l = l[n:]
	}
	r.without(ino, l)
	delete(r.orphans, ino)
	if there && i.Links == 0 {
		delete(r.inodes, ino)
	}
	return r.group()
}
