package signals_test

import (
	"fmt"
	"math"
	"slices"
	"testing"

	"janus/api"
	"janus/signals"
)

const (
	lastPid = api.MaxProcs
	lastSig = api.MaxSig
)

const (
	byDefault uint64 = 1<<64 - 1
	toIgnore  uint64 = 1<<64 - 2
)

// call is one call with its arguments; n is the signal, or whom Fork is for.
type call struct {
	name   string
	pid, n int
	h      uint64
	v      api.Vm
}

func set(pid, sig int, h uint64) call   { return call{name: "Set", pid: pid, n: sig, h: h} }
func send(pid, sig int) call            { return call{name: "Send", pid: pid, n: sig} }
func next(pid int) call                 { return call{name: "Next", pid: pid} }
func enter(pid int, v api.Vm) call      { return call{name: "Enter", pid: pid, v: v} }
func leave(pid int) call                { return call{name: "Leave", pid: pid} }
func fork(pid, child int) call          { return call{name: "Fork", pid: pid, n: child} }
func clears(pid int) call               { return call{name: "Clear", pid: pid} }
func gone(pid int) call                 { return call{name: "Gone", pid: pid} }
func encode() call                      { return call{name: "Encode"} }
func at(pc int, stack ...uint64) api.Vm { return api.Vm{Pc: pc, Stack: stack} }

// String tells a long stack by its front alone.
func (c call) String() string {
	return fmt.Sprintf("%s(%d, %d, %d, %d %v)", c.name, c.pid, c.n, c.h, c.v.Pc, c.v.Stack[:min(9, len(c.v.Stack))])
}

// answer is what a call answers, in the fields that it has a result for.
type answer struct {
	n     int
	h     uint64
	is    bool
	v     api.Vm
	words []uint64
	e     api.Errno
}

func sameVm(a, b api.Vm) bool { return a.Pc == b.Pc && slices.Equal(a.Stack, b.Stack) }

func (a answer) same(b answer) bool {
	return a.n == b.n && a.h == b.h && a.is == b.is && sameVm(a.v, b.v) && slices.Equal(a.words, b.words) && a.e == b.e
}

// on makes the call.
func (c call) on(s *signals.Signals) (a answer) {
	switch c.name {
	case "Set":
		a.e = s.Set(c.pid, c.n, c.h)
	case "Send":
		a.e = s.Send(c.pid, c.n)
	case "Next":
		a.n, a.h, a.is = s.Next(c.pid)
	case "Enter":
		a.e = s.Enter(c.pid, c.v)
	case "Leave":
		a.v, a.e = s.Leave(c.pid)
	case "Fork":
		s.Fork(c.pid, c.n)
	case "Clear":
		s.Clear(c.pid)
	case "Gone":
		s.Gone(c.pid)
	case "Encode":
		a.words = s.Encode()
	}
	return a
}

// step is a call, and what it should answer.
type step struct {
	call
	want answer
}

func (c call) ok() step                     { return step{call: c} }
func (c call) none() step                   { return step{call: c} }
func (c call) fails(e api.Errno) step       { return step{c, answer{e: e}} }
func (c call) tells(sig int, h uint64) step { return step{c, answer{n: sig, h: h, is: true}} }
func (c call) gives(v api.Vm) step          { return step{c, answer{v: v}} }
func (c call) words(w []uint64) step        { return step{c, answer{words: w}} }

func steps(l ...step) []step    { return l }
func joined(l ...[]step) []step { return slices.Concat(l...) }

func isPid(pid int) bool { return pid >= 1 && pid <= 8 }
func isSig(sig int) bool { return sig >= 1 && sig <= 15 }

// keeps says that the call should have changed nothing: it is refused, or it asks alone, or whom it is of is no process.
func (s step) keeps() bool {
	switch s.name {
	case "Encode":
		return true
	case "Fork":
		return !isPid(s.pid) || !isPid(s.n) || s.pid == s.n
	case "Next", "Clear", "Gone":
		return !isPid(s.pid)
	}
	return s.want.e != api.OK
}

func fresh(t *testing.T) *signals.Signals {
	t.Helper()
	s := signals.New()
	if s == nil {
		t.Fatal("New() = nil")
	}
	return s
}

// play makes the calls on a new one; those that keep all as it was must not be told by a later call.
func play(t *testing.T, steps ...step) *signals.Signals {
	t.Helper()
	s := fresh(t)
	for i, x := range steps {
		if got := x.on(s); !got.same(x.want) {
			t.Fatalf("step %d: %v answers %v, want %v", i, x.call, got, x.want)
		}
		if x.keeps() {
			wantSame(t, x.call, again(t, steps[:i+1]), again(t, steps[:i]))
		}
	}
	return s
}

func again(t *testing.T, steps []step) *signals.Signals {
	t.Helper()
	s := fresh(t)
	for _, x := range steps {
		x.on(s)
	}
	return s
}

// usesUp is calls that take all that is pending, first where each process is, then behind a Leave, then with all handlers of others.
func usesUp() []call {
	l := []call{encode()}
	for pid := 1; pid <= lastPid; pid++ {
		l = append(l, next(pid), next(pid), leave(pid), next(pid), leave(pid), encode())
		for sig := range lastSig + 2 {
			l = append(l, set(pid, sig, uint64(sig)), send(pid, sig), next(pid))
		}
		l = append(l, clears(pid), send(pid, 3), next(pid), gone(pid), next(pid), encode())
	}
	return l
}

// wantSame asks both for their words, and uses them up.
func wantSame(t *testing.T, behind call, s, other *signals.Signals) {
	t.Helper()
	for _, c := range usesUp() {
		if got, want := c.on(s), c.on(other); !got.same(want) {
			t.Fatalf("behind %v: %v answers %v, want %v", behind, c, got, want)
		}
	}
}

// farOff is numbers far beyond both ends, among them some that would be small ones if some of their bits were lost.
func farOff() []int {
	return []int{-8, -9, -15, 62, 63, 64, 65, 73, 127, 128, 129, 255, 256, 257, 265, 1 << 16, 1<<16 + 1, 1 << 31, 1 << 32, 1<<32 + 1, 1<<32 + 9, 1<<32 - 1, -1 << 31, -1 << 32, -1<<32 + 1, 1 << 62, -1 << 62, math.MinInt, math.MinInt + 1, math.MaxInt - 1, math.MaxInt}
}

// noPids is numbers of which none is a process's.
func noPids() []int { return append(farOff(), 0, 9, 10, -1) }

// noSigs is numbers of which none is a signal's.
func noSigs() []int { return append(farOff(), 0, 16, 17, 31, 32, -1) }

func allPids() []int { return []int{1, 2, 3, 4, 5, 6, 7, 8} }
func allSigs() []int { return []int{1, 2, 3, 4, 5, 6, 7, 8, 9, 10, 11, 12, 13, 14, 15} }

// others is all signals but for 9 and those.
func others(sigs ...int) []int {
	return slices.DeleteFunc(allSigs(), func(sig int) bool { return sig == 9 || slices.Contains(sigs, sig) })
}

// places is handlers of all kinds: small places, wide ones, and those that are none.
func places() []uint64 {
	return []uint64{0, 1, 2, 9, 255, 1<<20 - 1, 1 << 20, 1<<20 + 1, 1<<31 - 1, 1 << 31, 1 << 32, 1<<63 - 2, 1<<63 - 1, 1 << 63, 1<<64 - 4, 1<<64 - 3, toIgnore, byDefault}
}

// told is the Next of that signal with that handler: nothing, if it is to be ignored.
func told(pid, sig int, h uint64) step {
	if h == toIgnore {
		return next(pid).none()
	}
	return next(pid).tells(sig, h)
}

// sent sends those signals to a process.
func sent(pid int, sigs ...int) []step {
	var l []step
	for _, sig := range sigs {
		l = append(l, send(pid, sig).ok())
	}
	return l
}

// ignored lets a process ignore those signals.
func ignored(pid int, sigs ...int) []step {
	var l []step
	for _, sig := range sigs {
		l = append(l, set(pid, sig, toIgnore).ok())
	}
	return l
}

// tells is the Nexts that tell those signals, by default, and then nothing more.
func tells(pid int, sigs ...int) []step {
	var l []step
	for _, sig := range sigs {
		l = append(l, next(pid).tells(sig, byDefault))
	}
	return append(l, next(pid).none())
}

// stack is so many numbers, some of them wide.
func stack(n int) []uint64 {
	l := make([]uint64, n)
	for i := range l {
		l[i] = uint64(i+1) << (i % 64)
	}
	return l
}
