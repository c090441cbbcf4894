package uspec

import (
	"janus/api"
	"janus/vm"
)

// Where a number stands among those that a call takes.
const (
	nowhere = iota
	inFirst
	inSecond
	inThird
)

// layout says which of a call's numbers are its Call's A, B and C, and where the places of its texts stand: how long a text is stands behind its place.
type layout struct {
	call        int
	a, b, c     int
	text, text2 int
}

// layouts are those of all calls that take numbers.
func layouts() []layout {
	return []layout{
		{call: api.SysExit, a: inFirst},
		{call: api.SysExec, text: inFirst},
		{call: api.SysWait, a: inFirst},
		{call: api.SysOpen, text: inFirst, c: inThird},
		{call: api.SysClose, a: inFirst},
		{call: api.SysRead, a: inFirst, b: inSecond, c: inThird},
		{call: api.SysWrite, a: inFirst, text: inSecond},
		{call: api.SysPipe, a: inFirst},
		{call: api.SysDup, a: inFirst},
		{call: api.SysUnlink, text: inFirst},
		{call: api.SysMkdir, text: inFirst},
		{call: api.SysLink, text: inFirst, text2: inThird},
		{call: api.SysRename, text: inFirst, text2: inThird},
		{call: api.SysKill, a: inFirst, b: inSecond},
		{call: api.SysSignal, a: inFirst, b: inSecond},
	}
}

// numbers are those that a call takes.
type numbers []uint64

func (l numbers) number(place int) uint64 {
	if place == nowhere {
		return 0
	}
	return l[place-1]
}

func (l numbers) span(place int) span {
	if place == nowhere {
		return span{}
	}
	return span{l.number(place), l.number(place + 1)}
}

// span is so many words of a process's memory, from one on.
type span struct{ at, words uint64 }

// lies answers whether all of them are within the memory; none may be at its end, too.
func (s span) lies() bool {
	return s.at <= api.MaxWords && s.words <= api.MaxWords-s.at
}

// answerOf is where the call's answer is laid in memory.
func answerOf(x api.Call) span {
	switch x.N {
	case api.SysRead:
		return span{x.B, x.C}
	case api.SysWait:
		return span{x.A, 1}
	case api.SysPipe:
		return span{x.A, 2}
	}
	return span{}
}

// asks answers the call that the process is at, and why nothing of it can be done, if that is so.
func (p *process) asks(n int) (api.Call, api.Errno) {
	l, _ := find(layouts(), func(l layout) bool { return l.call == n })
	given := numbers(vm.Args(p.program, p.machine))
	text, lies := p.text(given.span(l.text))
	text2, lies2 := p.text(given.span(l.text2))
	x := api.Call{N: n, A: given.number(l.a), B: given.number(l.b), C: given.number(l.c), Text: text, Text2: text2}
	if !lies || !lies2 || !answerOf(x).lies() {
		return x, api.EFAULT
	}
	if n == api.SysSignal && !p.mayHandle(x.B) {
		return x, api.EINVAL
	}
	return x, api.OK
}

// text answers the bytes in that span; false, if it does not lie within the memory.
func (p *process) text(s span) (string, bool) {
	if !s.lies() {
		return "", false
	}
	bytes := make([]byte, s.words)
	for i := range bytes {
		bytes[i] = byte(p.memory[s.at+uint64(i)])
	}
	return string(bytes), true
}
