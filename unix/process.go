package unix

import (
	"math"

	"janus/api"
	"janus/dir"
	"janus/inode"
	"janus/valid"
)

const lastSignal = 9 // it has no handler but the default

// The handlers that are no places.
const (
	byDefault = math.MaxUint64
	toIgnore  = math.MaxUint64 - 1
)

func isPlace(handler uint64) bool { return handler != byDefault && handler != toIgnore }

// end lets a process that lives be a zombie, or gone, with nothing left of what was its own.
func (c *Core) end(s api.Store, pid, status int) {
	for fd := range api.MaxFd {
		c.closeOne(s, pid, fd)
	}
	c.signals.Gone(pid)
	c.procs.Exit(pid, status)
}

func (t task) exit() outcome {
	t.core.end(t.store, t.pid, int(t.call.A&math.MaxUint8))
	return number(0)
}

func (t task) fork() outcome {
	child, e := t.core.procs.Fork(t.pid)
	if e != api.OK {
		return failed(e)
	}
	t.core.fds.Fork(t.pid, child)
	t.core.signals.Fork(t.pid, child)
	return number(child)
}

func (t task) wait() outcome {
	child, status, e, told := t.core.procs.Wait(t.pid)
	if e != api.OK {
		return failed(e)
	}
	if !told {
		return mustWait()
	}
	return outcome{ret: api.Ret{N: child, Two: [2]int{status}}}
}

func (t task) exec() outcome {
	program, e := t.program()
	if e != api.OK {
		return failed(e)
	}
	t.core.signals.Clear(t.pid)
	return outcome{ret: api.Ret{Data: program}}
}

// program answers the bytes of the program that the call names.
func (t task) program() (string, api.Errno) {
	i, e := dir.Walk(t.store, t.call.Text)
	if e != api.OK {
		return "", e
	}
	if e := notDir(t.store, i); e != api.OK {
		return "", e
	}
	bytes, e := inode.Read(t.store, i, 0, api.MaxFile)
	if e != api.OK {
		return "", e
	}
	return bytes, valid.Check(bytes)
}

// kill sends a signal to a process that lives; 0, which is none, only asks whether it does.
func (t task) kill() outcome {
	pid, sig := small(t.call.A), small(t.call.B)
	if !t.core.Live(pid) {
		return failed(api.ESRCH)
	}
	if sig < 0 {
		return failed(api.EINVAL)
	}
	if sig > 0 {
		t.core.signals.Send(pid, sig)
	}
	return number(0)
}

func (t task) signal() outcome {
	return numberOr(0, t.core.signals.Set(t.pid, small(t.call.A), t.call.B))
}

// sigret leaves the handler; the machine that was kept is told by Saved, ahead of this call.
func (t task) sigret() outcome {
	_, e := t.core.signals.Leave(t.pid)
	return numberOr(0, e)
}
