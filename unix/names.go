package unix

import (
	"janus/api"
	"janus/dir"
	"janus/fscore"
	"janus/inode"
)

const allFlags = api.OpenCreate | api.OpenTrunc | api.OpenAppend

// notDir is EISDIR of a directory.
func notDir(s api.Store, i int) api.Errno {
	x, e := inode.Get(s, i)
	if e != api.OK {
		return e
	}
	if x.Kind == api.InodeDir {
		return api.EISDIR
	}
	return api.OK
}

// name does what the calls do that change names alone.
func (t task) name() api.Errno {
	text, other := t.call.Text, t.call.Text2
	switch t.call.N {
	case api.SysUnlink:
		return fscore.Unlink(t.store, text, t.core.openInodes())
	case api.SysMkdir:
		return fscore.Mkdir(t.store, text)
	case api.SysLink:
		return fscore.Link(t.store, text, other)
	case api.SysRename:
		return fscore.Rename(t.store, text, other, t.core.openInodes())
	}
	return api.EINVAL
}

func (t task) has(flag uint64) bool { return t.call.C&flag != 0 }

func (t task) open() outcome {
	if t.call.C > allFlags {
		return failed(api.EINVAL)
	}
	i, e := t.toOpen()
	if e != api.OK {
		return failed(e)
	}
	return numberOr(t.core.fds.Open(t.pid, api.File{Kind: api.FileInode, Id: i, Append: t.has(api.OpenAppend)}))
}

// toOpen answers the file that is to be opened, for which there is a descriptor then: a new one, or as long as it is to be.
func (t task) toOpen() (int, api.Errno) {
	i, e := dir.Walk(t.store, t.call.Text)
	if e == api.ENOENT && t.has(api.OpenCreate) {
		return t.create()
	}
	if e != api.OK {
		return 0, e
	}
	if e := notDir(t.store, i); e != api.OK {
		return 0, e
	}
	if !t.core.canOpen(t.pid, 1) {
		return 0, api.EMFILE
	}
	if t.has(api.OpenTrunc) {
		return i, inode.Resize(t.store, i, 0)
	}
	return i, api.OK
}

// create makes the file, if it can be opened then: a file that is made and not opened would be an error that changed something.
func (t task) create() (int, api.Errno) {
	if _, _, e := dir.Parent(t.store, t.call.Text); e != api.OK {
		return 0, e
	}
	if !t.core.canOpen(t.pid, 1) {
		return 0, api.EMFILE
	}
	return fscore.Create(t.store, t.call.Text)
}
