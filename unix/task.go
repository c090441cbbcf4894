package unix

import "janus/api"

// task is a call that is to be done: whose it is, on which disk, and what the console has left.
type task struct {
	core  *Core
	store api.Store
	pid   int
	call  api.Call
	in    string
}

// outcome is what there is to answer of a call.
type outcome struct {
	ret   api.Ret
	shown string // on the console
	taken int    // bytes of what it had left
	waits bool
}

func failed(e api.Errno) outcome { return outcome{ret: api.Ret{Err: e}} }

func number(n int) outcome { return outcome{ret: api.Ret{N: n}} }

func mustWait() outcome { return outcome{waits: true} }

// numberOr is a number, or an error alone.
func numberOr(n int, e api.Errno) outcome {
	if e != api.OK {
		return failed(e)
	}
	return number(n)
}

// do does the call.
func (t task) do() outcome {
	switch t.call.N {
	case api.SysExit:
		return t.exit()
	case api.SysFork:
		return t.fork()
	case api.SysExec:
		return t.exec()
	case api.SysWait:
		return t.wait()
	case api.SysOpen:
		return t.open()
	case api.SysClose:
		return t.close()
	case api.SysRead:
		return t.read()
	case api.SysWrite:
		return t.write()
	case api.SysPipe:
		return t.pipe()
	case api.SysDup:
		return t.dup()
	case api.SysUnlink, api.SysMkdir, api.SysLink, api.SysRename:
		return numberOr(0, t.name())
	case api.SysKill:
		return t.kill()
	case api.SysSignal:
		return t.signal()
	case api.SysGetpid:
		return number(t.pid)
	case api.SysSigret:
		return t.sigret()
	case api.SysYield:
		return number(0)
	}
	return failed(api.EINVAL)
}

// small is a number that names a descriptor, a process or a signal; -1, which is none of them, if it is greater than all of theirs: it may be greater than an int.
func small(x uint64) int {
	if x > api.MaxSig {
		return -1
	}
	return int(x)
}
