package uspec

import "janus/api"

// patience is how many Steps Follow waits for an event.
const patience = 500

// Run answers the events of the Steps that the picks tell, in their order.
func Run(cfg api.Config, picks []api.Pick) ([]api.Event, api.Errno) {
	u, e := New(cfg)
	if e != api.OK {
		return nil, e
	}
	var events []api.Event
	for _, x := range picks {
		if event, told := u.Step(x.Env, x.Fuel); told {
			events = append(events, event)
		}
	}
	return events, api.OK
}

// Follow answers how many of the events, from the front on, a run may show, where other systems than this one may be short of room.
func Follow(cfg api.Config, l []api.Event) int {
	u, e := New(cfg)
	if e != api.OK {
		return 0
	}
	for i, event := range l {
		if !u.follow(event) {
			return i
		}
	}
	return len(l)
}

// follow answers whether that may be the next event of its process; it is, then.
func (u *Spec) follow(want api.Event) bool {
	refused := false
	has := func(x api.Call) api.Errno {
		if !tellsOfNoRoom(want) || x != want.Call {
			return api.OK
		}
		refused = true
		return want.Ret.Err
	}
	for range patience {
		if got, told := u.step(want.Pid, api.MaxFuel, has); told {
			return refused || got == want
		}
	}
	return false
}

// lack is an error that a call may have for want of room alone.
type lack struct {
	call int
	err  api.Errno
}

func lacks() []lack {
	return []lack{
		{api.SysFork, api.ENOMEM},
		{api.SysExec, api.ENOMEM},
		{api.SysOpen, api.ENOSPC},
		{api.SysWrite, api.ENOSPC},
		{api.SysMkdir, api.ENOSPC},
		{api.SysLink, api.ENOSPC},
		{api.SysRename, api.ENOSPC},
	}
}

// tellsOfNoRoom answers whether the event is a call that was not done for want of room.
func tellsOfNoRoom(x api.Event) bool {
	_, may := find(lacks(), func(l lack) bool { return l == lack{x.Call.N, x.Ret.Err} })
	return may && x.Kind == api.EvCall
}
