package unix

import (
	"slices"

	"janus/api"
	"janus/fscore"
	"janus/inode"
)

// brokenPipe is the signal to who writes what nobody can read any more.
const brokenPipe = 13

// What a descriptor may name.
type (
	console struct{}
	stored  struct { // a file on the disk
		inode, off int
		appends    bool
	}
	reader struct{ pipe int }
	writer struct{ pipe int }
)

// whatIs answers what the open file is.
func whatIs(x api.File) any {
	switch x.Kind {
	case api.FileConsole:
		return console{}
	case api.FileInode:
		return stored{inode: x.Id, off: x.Off, appends: x.Append}
	case api.FileReader:
		return reader{x.Id}
	case api.FileWriter:
		return writer{x.Id}
	}
	return nil
}

func (c *Core) openInodes() []int { return c.fds.Ids(api.FileInode) }

// isOpen answers whether there is an open file of that kind on that inode or pipe.
func (c *Core) isOpen(kind, id int) bool {
	return slices.Contains(c.fds.Ids(kind), id)
}

// canOpen answers whether the process could have so many descriptors more, each of an open file of its own.
func (c *Core) canOpen(pid, n int) bool {
	open := int(c.fds.Encode()[0]) // layer 18 tells it in no other way
	return c.fds.Left(pid) >= n && api.MaxOpen-open >= n
}

// closeOne lets the descriptor name nothing; a file that none names any more has its end.
func (c *Core) closeOne(s api.Store, pid, fd int) api.Errno {
	x, e := c.fds.Close(pid, fd)
	if e == api.OK && x.Refs == 0 {
		c.over(s, x)
	}
	return e
}

// over is the end of a file that is open no more.
func (c *Core) over(s api.Store, x api.File) {
	switch f := whatIs(x).(type) {
	case stored:
		if !c.isOpen(api.FileInode, f.inode) {
			fscore.Close(s, f.inode)
		}
	case reader:
		c.dropPipe(f.pipe)
	case writer:
		c.dropPipe(f.pipe)
	}
}

// dropPipe lets a pipe be gone of which neither side is open.
func (c *Core) dropPipe(id int) {
	if !c.isOpen(api.FileReader, id) && !c.isOpen(api.FileWriter, id) {
		c.pipes.Drop(id)
	}
}

func (t task) descriptor() int { return small(t.call.A) }

func (t task) close() outcome {
	return numberOr(0, t.core.closeOne(t.store, t.pid, t.descriptor()))
}

func (t task) dup() outcome {
	return numberOr(t.core.fds.Dup(t.pid, t.descriptor()))
}

func (t task) pipe() outcome {
	if !t.core.canOpen(t.pid, 2) {
		return failed(api.EMFILE)
	}
	id, e := t.core.pipes.Make()
	if e != api.OK {
		return failed(e)
	}
	front, _ := t.core.fds.Open(t.pid, api.File{Kind: api.FileReader, Id: id})
	back, _ := t.core.fds.Open(t.pid, api.File{Kind: api.FileWriter, Id: id})
	return outcome{ret: api.Ret{Two: [2]int{front, back}}}
}

// got is what was read.
func got(data string) outcome {
	return outcome{ret: api.Ret{N: len(data), Data: data}}
}

func (t task) read() outcome {
	x, e := t.core.fds.Get(t.pid, t.descriptor())
	if e != api.OK {
		return failed(e)
	}
	if t.call.C > api.MaxWords {
		return failed(api.EINVAL)
	}
	n := int(t.call.C)
	switch f := whatIs(x).(type) {
	case console:
		return t.readConsole(n)
	case stored:
		return t.readStored(f, n)
	case reader:
		return t.readPipe(f, n)
	}
	return failed(api.EBADF)
}

func (t task) readConsole(n int) outcome {
	o := got(t.in[:min(n, len(t.in))])
	o.taken = o.ret.N
	return o
}

func (t task) readStored(f stored, n int) outcome {
	if n == 0 {
		return number(0)
	}
	data, e := inode.Read(t.store, f.inode, f.off, n)
	if e != api.OK {
		return failed(e)
	}
	t.core.fds.Seek(t.pid, t.descriptor(), f.off+len(data))
	return got(data)
}

func (t task) readPipe(f reader, n int) outcome {
	if n == 0 {
		return number(0)
	}
	data := t.core.pipes.Take(f.pipe, n)
	if data == "" && t.core.isOpen(api.FileWriter, f.pipe) {
		return mustWait()
	}
	return got(data)
}

func (t task) write() outcome {
	x, e := t.core.fds.Get(t.pid, t.descriptor())
	if e != api.OK {
		return failed(e)
	}
	switch f := whatIs(x).(type) {
	case console:
		return outcome{ret: api.Ret{N: len(t.call.Text)}, shown: t.call.Text}
	case stored:
		return t.writeStored(f)
	case writer:
		return t.writePipe(f)
	}
	return failed(api.EBADF)
}

func (t task) writeStored(f stored) outcome {
	n := len(t.call.Text)
	if n == 0 {
		return number(0)
	}
	at := f.off
	if f.appends {
		x, e := inode.Get(t.store, f.inode)
		if e != api.OK {
			return failed(e)
		}
		at = x.Size
	}
	if e := inode.Write(t.store, f.inode, at, t.call.Text); e != api.OK {
		return failed(e)
	}
	t.core.fds.Seek(t.pid, t.descriptor(), at+n)
	return number(n)
}

func (t task) writePipe(f writer) outcome {
	if t.call.Text == "" {
		return number(0)
	}
	if !t.core.isOpen(api.FileReader, f.pipe) {
		t.core.signals.Send(t.pid, brokenPipe)
		return failed(api.EPIPE)
	}
	n := t.core.pipes.Put(f.pipe, t.call.Text)
	if n == 0 { // there is no room
		return mustWait()
	}
	return number(n)
}
