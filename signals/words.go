package signals

import "janus/api"

// Whether a process is in a handler.
const (
	markOut = 0
	markIn  = 1
)

const (
	processWords = api.MaxSig + 2        // its handlers, what is pending, the mark
	placeWords   = 2                     // Pc, and how many are on the stack
	mostPc       = 1 << 20               // of one that is read from words
	allSignals   = 1<<(api.MaxSig+1) - 2 // their bits: 1 to MaxSig
)

// Encode answers what is kept of all processes in words.
func (s *Signals) Encode() []uint64 {
	if s == nil {
		return nil
	}
	var words []uint64
	for i := range s.processes {
		words = s.processes[i].appendTo(words)
	}
	return words
}

// Decode answers those whose Encode is these words.
func Decode(w []uint64) (*Signals, api.Errno) {
	s := &Signals{}
	for i := range s.processes {
		n, ok := s.processes[i].read(w)
		if !ok {
			return nil, api.ErrArg
		}
		w = w[n:]
	}
	if len(w) != 0 {
		return nil, api.ErrArg
	}
	return s, api.OK
}

// appendTo puts the process's words behind the others.
func (p *process) appendTo(words []uint64) []uint64 {
	words = append(words, p.handlers[:]...)
	words = append(words, p.pending)
	if !p.inHandler {
		return append(words, markOut)
	}
	words = append(words, markIn, uint64(p.kept.Pc), uint64(len(p.kept.Stack)))
	return append(words, p.kept.Stack...)
}

// read makes of the process what the first words say, and answers how many they are; false, if they say nothing.
func (p *process) read(w []uint64) (int, bool) {
	if len(w) < processWords {
		return 0, false
	}
	copy(p.handlers[:], w)
	p.pending = w[api.MaxSig]
	mark := w[api.MaxSig+1]
	if p.handler(lastOne) != byDefault || p.pending&^allSignals != 0 || mark > markIn {
		return 0, false
	}
	if mark == markOut {
		return processWords, true
	}
	v, ok := readVm(w[processWords:])
	if !ok {
		return 0, false
	}
	p.inHandler, p.kept = true, v
	return processWords + placeWords + len(v.Stack), true
}

// readVm answers the machine whose words come first; false, if it may not be kept, or its words are not there.
func readVm(w []uint64) (api.Vm, bool) {
	if len(w) < placeWords || w[0] > mostPc || w[1] > api.MaxStack || w[1] > uint64(len(w)-placeWords) {
		return api.Vm{}, false
	}
	stack := w[placeWords:][:w[1]]
	return copyOf(api.Vm{Pc: int(w[0]), Stack: stack}), true
}
