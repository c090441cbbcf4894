package uspec

import (
	"math"

	"janus/api"
	"janus/valid"
	"janus/vm"
)

// The handlers of signals that are no places in a program.
const (
	byDefault = math.MaxUint64
	toIgnore  = math.MaxUint64 - 1
)

// process is what one that lives runs on.
type process struct {
	pid     int
	program string
	machine api.Vm
	memory  [api.MaxWords]uint64
}

// run does so many instructions at most, and answers what the last one asked for.
func (p *process) run(fuel int) api.Act {
	machine, memory, act, _ := vm.Run(p.program, p.machine, p.memory[:], min(fuel, api.MaxFuel))
	p.machine = machine
	copy(p.memory[:], memory)
	return act
}

// goOn lets it be behind the call that it is at, with x as that one's result.
func (p *process) goOn(x uint64) {
	p.machine = vm.Done(p.program, p.machine, x)
}

// load lets it be at the beginning of a program, with nothing in its memory.
func (p *process) load(program string) {
	*p = process{pid: p.pid, program: program}
}

// child answers the process that it forks at the call that it is at.
func (p *process) child(pid int) *process {
	child := *p
	child.pid = pid
	child.goOn(0)
	return &child
}

// mayHandle answers whether that may be a handler of its signals.
func (p *process) mayHandle(handler uint64) bool {
	if handler == byDefault || handler == toIgnore {
		return true
	}
	return handler <= api.MaxFile && valid.Entry(p.program, int(handler))
}

// receive lays in its memory what a call answered there.
func (p *process) receive(x api.Call, r api.Ret) {
	switch x.N {
	case api.SysRead:
		for i := range len(r.Data) {
			p.memory[x.B+uint64(i)] = uint64(r.Data[i])
		}
	case api.SysWait:
		p.memory[x.A] = uint64(r.Two[0])
	case api.SysPipe:
		p.memory[x.A], p.memory[x.A+1] = uint64(r.Two[0]), uint64(r.Two[1])
	}
}
