package uspec

import (
	"slices"

	"janus/api"
)

const (
	fault    = 11  // the signal of a program that can't go on
	bySignal = 128 // the status of one that was killed: this and the signal
)

// room answers the error of a call for which there is no room; OK, if there is.
type room func(api.Call) api.Errno

func alwaysRoom(api.Call) api.Errno { return api.OK }

// step is Step, where there is only the room that has tells of.
func (u *Spec) step(pid, fuel int, has room) (api.Event, bool) {
	if u == nil {
		return api.Event{}, false
	}
	p, lives := find(u.processes, func(p *process) bool { return p.pid == pid })
	if !lives {
		return api.Event{}, false
	}
	act := p.run(fuel)
	switch act.Kind {
	case api.ActFault:
		return u.kill(p, fault), true
	case api.ActSys:
		return u.atCall(p, act.Sys, has)
	}
	return api.Event{}, false
}

// atCall lets the process do the call that it is at, or a signal come ahead of that; false, if it must wait.
func (u *Spec) atCall(p *process, n int, has room) (api.Event, bool) {
	if sig, handler, comes := u.core.Signal(p.pid, p.machine); comes {
		return u.signal(p, sig, handler), true
	}
	x, e := p.asks(n)
	if full := has(x); full != api.OK {
		e = full
	}
	kept, _ := u.core.Saved(p.pid) // behind SysSigret it is kept no more
	r, waits := u.answer(p.pid, x, e)
	if waits {
		return api.Event{}, false
	}
	u.settle(p, x, r, kept)
	return api.Event{Kind: api.EvCall, Pid: p.pid, Call: x, Ret: r}, true
}

// signal lets a signal come to the process: it is killed, or at its handler.
func (u *Spec) signal(p *process, sig int, handler uint64) api.Event {
	if handler == byDefault {
		return u.kill(p, sig)
	}
	p.machine = api.Vm{Pc: int(handler)}
	return api.Event{Kind: api.EvSignal, Pid: p.pid, Sig: sig}
}

// kill ends the process.
func (u *Spec) kill(p *process, sig int) api.Event {
	u.core.Kill(u.disk, p.pid, bySignal+sig)
	u.forget(p)
	return api.Event{Kind: api.EvKilled, Pid: p.pid, Sig: sig}
}

func (u *Spec) forget(p *process) {
	u.processes = slices.DeleteFunc(u.processes, func(x *process) bool { return x == p })
}

// answer does the call, unless e says why not; true, if it must wait.
func (u *Spec) answer(pid int, x api.Call, e api.Errno) (api.Ret, bool) {
	if e != api.OK {
		return api.Ret{Err: e}, false
	}
	r, shown, taken, waits := u.core.Do(u.disk, pid, x, u.input)
	u.shown = append(u.shown, shown...)
	u.input = u.input[taken:]
	return r, waits
}

// settle lets the process be behind its call, of which this is the result; kept is the machine to which it comes back from a handler.
func (u *Spec) settle(p *process, x api.Call, r api.Ret, kept api.Vm) {
	if r.Err != api.OK {
		p.goOn(-uint64(r.Err))
		return
	}
	switch x.N {
	case api.SysExit:
		u.forget(p)
		return
	case api.SysExec:
		p.load(r.Data)
		return
	case api.SysSigret:
		p.machine = kept
		return
	case api.SysFork:
		u.processes = append(u.processes, p.child(r.N))
	}
	p.receive(x, r)
	p.goOn(uint64(r.N))
}
