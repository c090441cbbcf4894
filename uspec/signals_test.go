package uspec_test

import (
	"fmt"
	"testing"

	"janus/api"
)

func handles(pid int, sig, handler uint64) api.Event {
	return does(pid, api.Call{N: api.SysSignal, A: sig, B: handler}, 0)
}

func sends(pid int, whom, sig uint64) api.Event {
	return does(pid, api.Call{N: api.SysKill, A: whom, B: sig}, 0)
}

func returns(pid int) api.Event { return does(pid, api.Call{N: api.SysSigret}, 0) }

func waited(pid int, a uint64, child, status int) api.Event {
	return called(pid, api.Call{N: api.SysWait, A: a}, api.Ret{N: child, Two: [2]int{status}})
}

func piped(pid int, a uint64, front, back int) api.Event {
	return called(pid, api.Call{N: api.SysPipe, A: a}, api.Ret{Two: [2]int{front, back}})
}

// 23.2: each signal but 9 by default, and 9 whatever was asked for: the process is killed ahead of its call, and its parent is told.
func TestSignalsByDefault(t *testing.T) {
	for sig := range 16 {
		cfg := runs(t, fmt.Sprintf("fork zero:child 2 %d kill drop 0 wait"+show+"0 load"+show+"0 end child: yield drop 0 exit drop jump:child", sig))
		if sig == 0 { // that is none
			plays(t, cfg, forks(1, 2), sends(1, 2, 0), yields(2), exits(2, 0), waited(1, 0, 2, 0))
			continue
		}
		u := plays(t, cfg, forks(1, 2), yields(2), sends(1, 2, uint64(sig)), nothing(1), dies(2, sig), nothing(2), waited(1, 0, 2, 128+sig), shown(1, 2), shown(1, uint64(128+sig)), exits(1, 0))
		wantLive(t, u)
	}
}

// 23.2: a signal comes to who sent it at the next call, not behind that at hand.
func TestSignalToOneself(t *testing.T) {
	for sig := 1; sig <= 15; sig++ {
		u := plays(t, runs(t, fmt.Sprintf("1 %d kill drop", sig)+idle), sends(1, 1, uint64(sig)), dies(1, sig), nothing(1))
		wantLive(t, u)
	}
}

// 23.2: no signal comes where no call is.
func TestSignalAheadOfACallAlone(t *testing.T) {
	u := made(t, runs(t, "fork zero:child 2 2 kill drop"+idle+"child: 1 drop 1 drop"+idle2))
	wantSteps(t, u, forks(1, 2), sends(1, 2, 2))
	for range 5 { // zero, and four more
		wantNothing(t, u, 2, 1)
	}
	wantNothing(t, u, 2, 0)
	wantLive(t, u, 1, 2)
	if got, told := u.Step(2, 1); !told || got != dies(2, 2) {
		t.Errorf("%v, %v", got, told)
	}
}

const idle2 = " more: yield drop jump:more "

// 23.2: a signal to be ignored does not come, and the call is done.
func TestSignalsToBeIgnored(t *testing.T) {
	for sig := 1; sig <= 15; sig++ {
		if sig == 9 {
			continue
		}
		cfg := runs(t, fmt.Sprintf("%d 18446744073709551614 signal drop 1 %d kill drop"+idle, sig, sig))
		plays(t, cfg, handles(1, uint64(sig), toIgnore), sends(1, 1, uint64(sig)), yields(1), yields(1))
	}
	// It is gone for good: what is asked for later comes too late for it.
	s := "10 18446744073709551614 signal drop 1 10 kill drop 10 18446744073709551615 signal drop"
	plays(t, runs(t, s+idle), handles(1, 10, toIgnore), sends(1, 1, 10), handles(1, 10, byDefault), yields(1))
}

// 23.2: several at once: 9 first, then the lowest; those to be ignored are passed.
func TestSeveralSignals(t *testing.T) {
	ask := func(sig int, handler string) string { return fmt.Sprintf(" %d %s signal drop ", sig, handler) }
	send := func(sig int) string { return fmt.Sprintf(" 2 %d kill drop ", sig) }
	s := "1 zero:h" + ask(3, "@h") + ask(7, "@h") + ask(5, "18446744073709551614") + "fork zero:child" + send(12) + send(7) + send(5) + send(3) + idle + "child: yield drop jump:child h: sigret drop jump:h"
	h := placeOf(t, s, "h")
	l := []api.Event{handles(1, 3, h), handles(1, 7, h), handles(1, 5, toIgnore), forks(1, 2), yields(2), sends(1, 2, 12), sends(1, 2, 7), sends(1, 2, 5), sends(1, 2, 3)}
	u := plays(t, runs(t, s), append(l, comes(2, 3), returns(2), comes(2, 7), returns(2), dies(2, 12), yields(1))...)
	wantLive(t, u, 1)

	s = "1 zero:h" + ask(3, "@h") + "fork zero:child" + send(3) + send(9) + send(2) + idle + "child: yield drop jump:child h: sigret drop jump:h"
	h = placeOf(t, s, "h")
	plays(t, runs(t, s), handles(1, 3, h), forks(1, 2), sends(1, 2, 3), sends(1, 2, 9), sends(1, 2, 2), dies(2, 9), nothing(2))
}

// 23.2: within a handler none comes but 9; the others come behind it.
func TestSignalsWithinAHandler(t *testing.T) {
	s := "1 zero:h 4 @h signal drop 1 4 kill drop 6 7" + show + show + "0 end h: 1 4 kill drop 1 2 kill drop yield drop sigret drop jump:h"
	h := placeOf(t, s, "h")
	plays(t, runs(t, s), handles(1, 4, h), sends(1, 1, 4), comes(1, 4), sends(1, 1, 4), sends(1, 1, 2), yields(1), returns(1), dies(1, 2))

	s = "1 zero:h 4 @h signal drop 1 4 kill drop yield drop 0 end h: 1 4 kill drop 1 9 kill drop yield drop sigret drop jump:h"
	h = placeOf(t, s, "h")
	plays(t, runs(t, s), handles(1, 4, h), sends(1, 1, 4), comes(1, 4), sends(1, 1, 4), sends(1, 1, 9), dies(1, 9), nothing(1))
}

// 23.2: a handler that is begun again and again; the call is done in the end, with its numbers as they were.
func TestHandlerAgain(t *testing.T) {
	s := "1 zero:h 4 @h signal drop 1 4 kill drop 6 7" + show + show + "0 end h: 0 load 1 add 0 store 0 load 5 less zero:done 1 4 kill drop sigret drop jump:h done: sigret drop jump:h"
	h := placeOf(t, s, "h")
	l := []api.Event{handles(1, 4, h), sends(1, 1, 4)}
	for range 4 {
		l = append(l, comes(1, 4), sends(1, 1, 4), returns(1))
	}
	plays(t, runs(t, s), append(l, comes(1, 4), returns(1), shown(1, 7), shown(1, 6), exits(1, 0))...)
}

// 23.2: a signal comes to who waits, and the call waits on behind its handler.
func TestSignalToWhoWaits(t *testing.T) {
	s := "1 zero:h 4 @h signal drop 0 pipe drop fork zero:child 2 4 kill drop 1 load 0 1 write drop 2 9 kill drop 9 wait drop 9 load" + show + "0 end child: 0 load 5 1 read" + show + "jump:child h: 8 5 store sigret drop jump:h"
	h := placeOf(t, s, "h")
	reads := api.Call{N: api.SysRead, A: 3, B: 5, C: 1}
	plays(t, runs(t, s), handles(1, 4, h), piped(1, 0, 3, 4), forks(1, 2), nothing(2), sends(1, 2, 4),
		comes(2, 4), returns(2), nothing(2), nothing(2),
		does(1, api.Call{N: api.SysWrite, A: 4, Text: "\x03"}, 1),
		called(2, reads, api.Ret{N: 1, Data: "\x03"}), shown(2, 1), nothing(2),
		sends(1, 2, 9), nothing(1), dies(2, 9), waited(1, 9, 2, 137), shown(1, 137), exits(1, 0))
}

// 23.2: a child is in its parent's handler, and comes back to where its parent would; what is pending is its parent's alone.
func TestForkWithinAHandler(t *testing.T) {
	s := "1 zero:h 4 @h signal drop 1 4 kill drop 6 7" + show + show + "0 end h: 1 4 kill drop fork drop sigret drop jump:h"
	h := placeOf(t, s, "h")
	u := plays(t, runs(t, s), handles(1, 4, h), sends(1, 1, 4), comes(1, 4), sends(1, 1, 4), forks(1, 2),
		returns(2), shown(2, 7), shown(2, 6), exits(2, 0),
		returns(1), comes(1, 4))
	wantLive(t, u, 1)
}

// 23.2: SysExec within a handler leaves it, and forgets handlers but those to ignore.
func TestExecWithinAHandler(t *testing.T) {
	s := `1 zero:h 4 @h signal drop 5 18446744073709551614 signal drop 6 @h signal drop 1 4 kill drop yield drop 0 end h: "/x"@0 0 2 exec drop jump:h`
	h := placeOf(t, s, "h")
	x := bytesOf(t, "sigret"+show+"1 5 kill drop 1 6 kill drop"+idle)
	exec := called(1, api.Call{N: api.SysExec, Text: "/x"}, api.Ret{Data: x})
	plays(t, runs(t, s, file("/x", x)), handles(1, 4, h), handles(1, 5, toIgnore), handles(1, 6, h), sends(1, 1, 4), comes(1, 4), exec,
		fails(1, api.Call{N: api.SysSigret}, api.EINVAL), shownErr(1, api.EINVAL), sends(1, 1, 5), sends(1, 1, 6), dies(1, 6))
}

// 23.2: a write that nobody can read any more sends 13.
func TestBrokenPipe(t *testing.T) {
	s := "0 pipe drop 0 load close drop 1 load 0 1 write" + show + idle
	broken := fails(1, api.Call{N: api.SysWrite, A: 4, Text: "\x03"}, api.EPIPE)
	closes := does(1, api.Call{N: api.SysClose, A: 3}, 0)
	plays(t, runs(t, s), piped(1, 0, 3, 4), closes, broken, dies(1, 13))
	plays(t, runs(t, "13 18446744073709551614 signal drop "+s), handles(1, 13, toIgnore), piped(1, 0, 3, 4), closes, broken, shownErr(1, api.EPIPE), yields(1))
}
