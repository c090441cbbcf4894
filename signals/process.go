package signals

import (
	"math"
	"slices"

	"janus/api"
)

// The handlers that are no places in a program.
const (
	byDefault = math.MaxUint64
	toIgnore  = math.MaxUint64 - 1
)

const (
	none    = 0 // no signal
	lastOne = 9 // it comes ahead of all others, in a handler too
)

// process is what is kept of one.
type process struct {
	handlers  [api.MaxSig]uint64 // from signal 1 on
	pending   uint64             // bit sig is set of each signal that is
	inHandler bool
	kept      api.Vm // where it goes on when it leaves the handler
}

// atFirst is a process to which nothing was done yet.
func atFirst() process {
	var p process
	for i := range p.handlers {
		p.handlers[i] = byDefault
	}
	return p
}

func isSignal(sig int) bool { return sig >= 1 && sig <= api.MaxSig }

func bit(sig int) uint64 { return 1 << sig }

// copyOf answers v on a stack of its own.
func copyOf(v api.Vm) api.Vm {
	v.Stack = slices.Clone(v.Stack)
	return v
}

func (p *process) handler(sig int) uint64 { return p.handlers[sig-1] }

func (p *process) setHandler(sig int, handler uint64) { p.handlers[sig-1] = handler }

func (p *process) isPending(sig int) bool { return p.pending&bit(sig) != 0 }

// isHandled says that the signal is pending, and not to be ignored.
func (p *process) isHandled(sig int) bool { return p.isPending(sig) && p.handler(sig) != toIgnore }

// drop lets the signal be pending no more.
func (p *process) drop(sig int) { p.pending &^= bit(sig) }

// next answers the signal that comes, and drops those to be ignored that it passes on the way there.
func (p *process) next() int {
	if p.isPending(lastOne) {
		return lastOne
	}
	if p.inHandler {
		return none
	}
	sig := lowest(p.isHandled)
	for passed := lowest(p.isPending); passed != sig; passed = lowest(p.isPending) {
		p.drop(passed)
	}
	return sig
}

// lowest answers the lowest signal of which that is so; none, if it is so of none.
func lowest(is func(sig int) bool) int {
	for sig := 1; sig <= api.MaxSig; sig++ {
		if is(sig) {
			return sig
		}
	}
	return none
}
