package signals_test

import (
	"testing"

	"janus/api"
	"janus/signals"
)

func TestExamples(t *testing.T) {
	play(t, send(1, 10).ok(), send(1, 2).ok(), next(1).tells(2, 1<<64-1), next(1).tells(10, 1<<64-1), next(1).none())
	play(t, set(1, 9, 5).fails(api.EINVAL))
	play(t, set(1, 2, 1<<64-2).ok(), send(1, 2).ok(), next(1).none())
}

func TestNewHasNothing(t *testing.T) {
	for _, pid := range allPids() {
		play(t, next(pid).none(), leave(pid).fails(api.EINVAL), next(pid).none(), enter(pid, at(0)).ok())
		for _, sig := range allSigs() {
			play(t, send(pid, sig).ok(), next(pid).tells(sig, byDefault), next(pid).none())
		}
	}
}

func TestNewMakesThemApart(t *testing.T) {
	s, other := fresh(t), fresh(t)
	for _, c := range []call{set(1, 2, 40), send(1, 2), send(2, 9), enter(3, at(4, 5))} {
		c.on(s)
	}
	wantSame(t, encode(), other, fresh(t))
}

func TestSetOfEachSignal(t *testing.T) {
	for _, pid := range allPids() {
		for _, sig := range others() {
			l := steps(set(pid, sig, 40).ok())
			for _, each := range allSigs() {
				h := byDefault
				if each == sig {
					h = 40
				}
				l = append(l, send(pid, each).ok(), next(pid).tells(each, h))
			}
			play(t, append(l, next(pid).none())...)
		}
	}
}

func TestSetOfEachKindOfHandler(t *testing.T) {
	for _, sig := range []int{1, 2, 8, 10, 15} {
		for _, h := range places() {
			play(t, set(1, sig, h).ok(), send(1, sig).ok(), told(1, sig, h), next(1).none())
			play(t, send(1, sig).ok(), set(1, sig, h).ok(), told(1, sig, h), next(1).none()) // it is asked when it comes
			for _, first := range places() {
				play(t, set(1, sig, first).ok(), set(1, sig, h).ok(), send(1, sig).ok(), told(1, sig, h))
				play(t, set(1, sig, first).ok(), send(1, sig).ok(), set(1, sig, h).ok(), told(1, sig, h))
			}
		}
	}
}

func TestSetOfAll(t *testing.T) {
	var l []step
	for _, pid := range allPids() {
		for _, sig := range others() {
			l = append(l, set(pid, sig, uint64(100*pid+sig)).ok())
		}
	}
	for _, pid := range allPids() {
		l = append(l, sent(pid, allSigs()...)...)
		l = append(l, next(pid).tells(9, byDefault))
		for _, sig := range others() {
			l = append(l, next(pid).tells(sig, uint64(100*pid+sig)))
		}
		l = append(l, next(pid).none())
	}
	play(t, l...)
}

// A handler stays for each time that its signal is told.
func TestSetStays(t *testing.T) {
	play(t, set(1, 2, 7).ok(),
		send(1, 2).ok(), next(1).tells(2, 7), send(1, 2).ok(), next(1).tells(2, 7),
		enter(1, at(3)).ok(), leave(1).gives(at(3)), send(1, 2).ok(), next(1).tells(2, 7))
	play(t, set(1, 2, toIgnore).ok(), send(1, 2).ok(), next(1).none(), send(1, 2).ok(), next(1).none())
}

func TestSetInAHandler(t *testing.T) {
	play(t, enter(1, at(3, 4)).ok(), set(1, 2, 7).ok(), send(1, 2).ok(), next(1).none(), set(1, 2, 8).ok(), leave(1).gives(at(3, 4)), next(1).tells(2, 8))
}

func TestSetErrors(t *testing.T) {
	for _, sig := range append(noSigs(), 9) {
		for _, h := range places() {
			play(t, set(1, sig, h).fails(api.EINVAL), next(1).none(), send(1, 9).ok(), next(1).tells(9, byDefault))
		}
		for _, pid := range []int{2, 8} {
			play(t, set(pid, sig, 40).fails(api.EINVAL))
		}
	}
	for _, pid := range noPids() {
		for _, sig := range []int{1, 9, 15, 0, 16, -1, 1 << 32} { // ESRCH comes first
			play(t, set(pid, sig, 40).fails(api.ESRCH))
		}
		play(t, set(pid, 2, toIgnore).fails(api.ESRCH), set(pid, 2, byDefault).fails(api.ESRCH))
	}
}

func TestSendOfEachSignal(t *testing.T) {
	for _, pid := range allPids() {
		for _, sig := range allSigs() {
			play(t, send(pid, sig).ok(), next(pid).tells(sig, byDefault), next(pid).none(), next(pid).none())
		}
	}
}

func TestSendIsPendingOnce(t *testing.T) {
	for _, sig := range allSigs() {
		play(t, joined(sent(1, sig, sig), tells(1, sig))...)
		play(t, joined(sent(1, sig, sig, sig, sig), tells(1, sig), sent(1, sig), tells(1, sig))...)
		for _, other := range allSigs() {
			if other != sig {
				play(t, joined(sent(1, sig, other, sig), tells(1, inOrder(sig, other)...))...)
			}
		}
	}
}

// inOrder is two signals in the order in which they come.
func inOrder(a, b int) []int {
	if b == 9 || a != 9 && b < a {
		a, b = b, a
	}
	return []int{a, b}
}

func TestSendErrors(t *testing.T) {
	for _, sig := range noSigs() {
		for _, pid := range []int{1, 2, 8} {
			play(t, send(pid, sig).fails(api.EINVAL), next(pid).none())
		}
	}
	for _, pid := range noPids() {
		for _, sig := range append(allSigs(), 0, 16, -1, 1<<32) { // ESRCH comes first
			play(t, send(pid, sig).fails(api.ESRCH))
		}
	}
}

func TestNextWithNothingPending(t *testing.T) {
	for _, pid := range allPids() {
		play(t, next(pid).none(), next(pid).none(), set(pid, 1, 4).ok(), set(pid, 2, toIgnore).ok(), next(pid).none(), send(pid, 1).ok(), next(pid).tells(1, 4))
	}
}

func TestNextOfWhatIsNoProcess(t *testing.T) {
	for _, pid := range noPids() {
		var l []step
		for _, p := range allPids() {
			l = append(l, send(p, 9).ok(), send(p, p).ok())
		}
		play(t, append(l, next(pid).none(), next(pid).none())...)
	}
}

// All sets of signals, sent from the highest on.
func TestNextTellsTheLowestFirst(t *testing.T) {
	for sigs := range 1 << lastSig {
		s := fresh(t)
		var want []int
		for _, sig := range allSigs() {
			if sigs>>(sig-1)&1 == 1 {
				want = append(want, sig)
			}
		}
		for i := range want {
			s.Send(1, want[len(want)-1-i])
		}
		for _, sig := range lastFirst(want) {
			if got, h, is := s.Next(1); got != sig || h != byDefault || !is {
				t.Fatalf("of %v Next tells %d, %d, %v, want %d", want, got, h, is, sig)
			}
		}
		if got, h, is := s.Next(1); got != 0 || h != 0 || is {
			t.Fatalf("behind %v Next tells %d, %d, %v", want, got, h, is)
		}
	}
}

// lastFirst is rising signals, but 9 ahead of all.
func lastFirst(sigs []int) []int {
	var l []int
	for _, sig := range sigs {
		if sig == 9 {
			l = append([]int{9}, l...)
		} else {
			l = append(l, sig)
		}
	}
	return l
}

func TestNextTells9First(t *testing.T) {
	for _, sig := range others() {
		for _, h := range places() {
			l := steps(set(1, sig, h).ok(), send(1, sig).ok(), send(1, 9).ok(), next(1).tells(9, byDefault))
			play(t, append(l, told(1, sig, h), next(1).none())...)
		}
	}
	play(t, joined(sent(1, allSigs()...), tells(1, 9, 1, 2, 3, 4, 5, 6, 7, 8, 10, 11, 12, 13, 14, 15))...)
}

// What is pending beside 9 is pending still when that is told, to be ignored or not.
func TestNextTells9AndNothingElse(t *testing.T) {
	for _, sig := range others() {
		play(t, joined(ignored(1, sig), sent(1, sig, 9), steps(
			next(1).tells(9, byDefault), set(1, sig, 40).ok(), next(1).tells(sig, 40), next(1).none()))...)
		play(t, joined(ignored(1, sig), sent(1, sig, 9), steps(
			enter(1, at(0)).ok(), next(1).tells(9, byDefault), leave(1).gives(at(0)), set(1, sig, 40).ok(), next(1).tells(sig, 40), next(1).none()))...)
	}
}

func TestNextInAHandler(t *testing.T) {
	for _, pid := range allPids() {
		for _, sig := range others() {
			play(t, // what was sent ahead of it or in it comes behind it
				send(pid, sig).ok(), enter(pid, at(4)).ok(), next(pid).none(), next(pid).none(), leave(pid).gives(at(4)), next(pid).tells(sig, byDefault), next(pid).none())
			play(t,
				enter(pid, at(4)).ok(), send(pid, sig).ok(), next(pid).none(), leave(pid).gives(at(4)), next(pid).tells(sig, byDefault), next(pid).none())
			play(t, // 9 comes in it
				enter(pid, at(4)).ok(), send(pid, sig).ok(), send(pid, 9).ok(), next(pid).tells(9, byDefault), next(pid).none(),
				leave(pid).gives(at(4)), next(pid).tells(sig, byDefault), next(pid).none())
		}
		play(t, enter(pid, at(4)).ok(), next(pid).none(), send(pid, 9).ok(), next(pid).tells(9, byDefault), next(pid).none(), leave(pid).gives(at(4)))
	}
}

// In a handler nothing is passed: what is to be ignored stays pending.
func TestNextInAHandlerLeavesThoseToBeIgnored(t *testing.T) {
	for _, sig := range others() {
		play(t, joined(ignored(1, sig), sent(1, sig), steps(
			enter(1, at(4)).ok(), next(1).none(), leave(1).gives(at(4)), set(1, sig, 40).ok(), next(1).tells(sig, 40), next(1).none()))...)
	}
}

// The lower one is pending no more behind a Next that tells the higher one; the higher one is behind one that tells the lower one.
func TestNextPassesThoseToBeIgnored(t *testing.T) {
	for _, low := range others() {
		for _, high := range others() {
			if low >= high {
				continue
			}
			play(t, joined(ignored(1, low), sent(1, low, high), steps(
				next(1).tells(high, byDefault), set(1, low, 40).ok(), next(1).none(), send(1, low).ok(), next(1).tells(low, 40), next(1).none()))...)
			play(t, joined(ignored(1, high), sent(1, low, high), steps(
				next(1).tells(low, byDefault), set(1, high, 40).ok(), next(1).tells(high, 40), next(1).none()))...)
			play(t, joined(ignored(1, high), sent(1, low, high), steps(
				next(1).tells(low, byDefault), next(1).none(), set(1, high, 40).ok(), next(1).none()))...)
		}
	}
}

// Each one that comes, among all others, which are to be ignored.
func TestNextPassesAllLowerOnes(t *testing.T) {
	for _, sig := range others() {
		rest := others(sig)
		l := joined(ignored(1, rest...), steps(set(1, sig, 5).ok()), sent(1, others()...), steps(next(1).tells(sig, 5)))
		for _, each := range rest {
			l = append(l, set(1, each, 40).ok())
		}
		for _, each := range rest {
			if each > sig {
				l = append(l, next(1).tells(each, 40))
			}
		}
		play(t, append(l, next(1).none())...)
	}
}

// What comes is passed to at a time: those between two that come are pending no more with the second.
func TestNextPassesByTurns(t *testing.T) {
	l := joined(ignored(1, 1, 3, 5), sent(1, 1, 2, 3, 4, 5), steps(next(1).tells(2, byDefault)))
	again := func(more ...step) []step { return joined(l, more) }
	play(t, again(set(1, 1, 7).ok(), set(1, 3, 7).ok(), set(1, 5, 7).ok(), next(1).tells(3, 7), next(1).tells(4, byDefault), next(1).tells(5, 7), next(1).none())...)
	play(t, again(next(1).tells(4, byDefault), set(1, 3, 7).ok(), set(1, 5, 7).ok(), next(1).tells(5, 7), next(1).none())...)
	play(t, again(next(1).tells(4, byDefault), next(1).none(), set(1, 3, 7).ok(), set(1, 5, 7).ok(), next(1).none())...)
}

// Where none comes, all that are to be ignored are passed.
func TestNextWithOnlyThoseToBeIgnored(t *testing.T) {
	for _, pid := range allPids() {
		for _, sig := range others() {
			play(t, joined(ignored(pid, sig), sent(pid, sig), steps(
				next(pid).none(), next(pid).none(), set(pid, sig, 40).ok(), next(pid).none(), send(pid, sig).ok(), next(pid).tells(sig, 40), next(pid).none()))...)
		}
		l := joined(ignored(pid, others()...), sent(pid, others()...), steps(next(pid).none()))
		for _, sig := range others() {
			l = append(l, set(pid, sig, 40).ok())
		}
		play(t, append(l, next(pid).none())...)
	}
}

// Those that are to be ignored are pending till then: who does not ignore them any more is told.
func TestSendOfWhatIsToBeIgnored(t *testing.T) {
	for _, sig := range others() {
		for _, h := range []uint64{0, 40, byDefault} {
			play(t, joined(ignored(1, sig), sent(1, sig), steps(set(1, sig, h).ok(), next(1).tells(sig, h), next(1).none()))...)
		}
	}
}

// machines is what a process may be at when a handler begins.
func machines() []api.Vm {
	l := []api.Vm{{}, at(0), at(7), {Pc: 7, Stack: []uint64{}}, at(1 << 20), at(1<<20 + 1), at(-1), at(-1 << 63), at(1<<63 - 1)}
	for _, n := range []int{1, 2, 31, 32, 33, 1000} {
		l = append(l, at(n, stack(n)...))
	}
	return append(l, at(3, 0), at(3, 0, 0, 0), at(4, 1<<64-1, 0, 1<<63))
}

func TestEnterKeepsAllOfIt(t *testing.T) {
	for _, pid := range []int{1, 2, 7, 8} {
		for _, v := range machines() {
			play(t, enter(pid, v).ok(), leave(pid).gives(v), leave(pid).fails(api.EINVAL))
			for _, w := range machines() {
				play(t, enter(pid, v).ok(), enter(pid, w).fails(api.EINVAL), leave(pid).gives(v), enter(pid, w).ok(), leave(pid).gives(w))
			}
		}
	}
}

func TestEnterTwice(t *testing.T) {
	for _, pid := range allPids() {
		play(t, enter(pid, at(4, 7)).ok(), enter(pid, at(5, 8)).fails(api.EINVAL), enter(pid, at(4, 7)).fails(api.EINVAL),
			leave(pid).gives(at(4, 7)), leave(pid).fails(api.EINVAL))
	}
}

func TestLeaveTwice(t *testing.T) {
	for _, pid := range allPids() {
		play(t, leave(pid).fails(api.EINVAL), enter(pid, at(4, 7)).ok(), leave(pid).gives(at(4, 7)),
			leave(pid).fails(api.EINVAL), leave(pid).fails(api.EINVAL), enter(pid, at(5)).ok(), leave(pid).gives(at(5)))
	}
}

func TestEnterAndLeaveErrors(t *testing.T) {
	for _, pid := range noPids() {
		for _, v := range []api.Vm{at(0), at(4, 7), at(-1)} {
			play(t, enter(pid, v).fails(api.ESRCH), leave(pid).fails(api.ESRCH), enter(pid, v).fails(api.ESRCH))
		}
	}
}

// Enter and Leave leave handlers, and what is pending.
func TestEnterAndLeaveLeaveAllElse(t *testing.T) {
	play(t, joined(steps(set(1, 2, 40).ok()), ignored(1, 3), sent(1, 2, 3, 4), steps(
		enter(1, at(4, 7)).ok(), leave(1).gives(at(4, 7)), next(1).tells(2, 40), next(1).tells(4, byDefault), next(1).none(),
		send(1, 3).ok(), next(1).none()))...)
}

func TestClear(t *testing.T) {
	for _, pid := range allPids() {
		for _, h := range places() {
			left := byDefault
			if h == toIgnore {
				left = toIgnore
			}
			for _, sig := range others() {
				play(t, set(pid, sig, h).ok(), clears(pid).ok(), send(pid, sig).ok(), told(pid, sig, left), next(pid).none())
			}
		}
		// what is pending stays
		play(t, joined(sent(pid, allSigs()...), steps(clears(pid).ok()), tells(pid, 9, 1, 2, 3, 4, 5, 6, 7, 8, 10, 11, 12, 13, 14, 15))...)
		play(t, joined(ignored(pid, 2), sent(pid, 2), steps(clears(pid).ok(), set(pid, 2, 40).ok(), next(pid).tells(2, 40), next(pid).none()))...)
		// it is in no handler
		play(t, enter(pid, at(4, 7)).ok(), clears(pid).ok(), leave(pid).fails(api.EINVAL), enter(pid, at(5)).ok(), leave(pid).gives(at(5)))
		play(t, set(pid, 2, 40).ok(), send(pid, 2).ok(), enter(pid, at(4, 7)).ok(), clears(pid).ok(), next(pid).tells(2, byDefault), next(pid).none())
		play(t, clears(pid).ok(), clears(pid).ok(), next(pid).none(), leave(pid).fails(api.EINVAL))
	}
}

func TestGone(t *testing.T) {
	for _, pid := range allPids() {
		l := joined(sent(pid, allSigs()...), ignored(pid, 3, 10), steps(set(pid, 2, 40).ok(), set(pid, 15, 0).ok(), enter(pid, at(4, 7)).ok(), gone(pid).ok()))
		s := play(t, append(l, next(pid).none(), leave(pid).fails(api.EINVAL))...)
		wantSame(t, gone(pid), s, fresh(t))
		for _, sig := range allSigs() {
			play(t, joined(l, sent(pid, sig), tells(pid, sig))...)
		}
	}
}

func TestClearAndGoneOfWhatIsNoProcess(t *testing.T) {
	l := busy()
	for _, pid := range noPids() {
		wantSame(t, clears(pid), play(t, append(l, clears(pid).ok())...), play(t, l...))
		wantSame(t, gone(pid), play(t, append(l, gone(pid).ok())...), play(t, l...))
	}
}

// busy has processes with handlers of all kinds, with pending ones, in handlers.
func busy() []step {
	return joined(
		steps(set(1, 2, 40).ok(), set(1, 4, 0).ok(), enter(1, at(9, stack(32)...)).ok()), ignored(1, 3, 15), sent(1, 2, 3, 9, 15),
		ignored(2, 1), sent(2, 1, 4), steps(set(2, 4, 1<<20).ok()),
		steps(enter(5, at(1<<20)).ok()),
		sent(8, 9, 13, 15), steps(set(8, 15, 8).ok(), enter(8, at(3, 6, 5)).ok()),
	)
}

// What is done to one is done to none of the others.
func TestProcessesAreApart(t *testing.T) {
	for _, pid := range allPids() {
		var ahead, behind []step
		for _, other := range allPids() {
			if other == pid {
				continue
			}
			ahead = append(ahead, set(other, 2, uint64(other)).ok(), set(other, 3, toIgnore).ok(), send(other, 2).ok(), send(other, 3).ok(), send(other, 4).ok(), enter(other, at(other, 7)).ok())
			behind = append(behind, next(other).none(), leave(other).gives(at(other, 7)), next(other).tells(2, uint64(other)), next(other).tells(4, byDefault), next(other).none())
		}
		for _, done := range [][]step{
			steps(set(pid, 2, 40).ok(), set(pid, 3, 40).ok(), set(pid, 4, toIgnore).ok()),
			steps(send(pid, 9).ok(), send(pid, 1).ok()),
			steps(send(pid, 1).ok(), next(pid).tells(1, byDefault), next(pid).none()),
			steps(enter(pid, at(100)).ok(), leave(pid).gives(at(100))),
			steps(clears(pid).ok()),
			steps(gone(pid).ok()),
		} {
			play(t, joined(ahead, done, behind)...)
		}
	}
}

func TestNil(t *testing.T) {
	var s *signals.Signals
	wantOn := func(c call, want answer) {
		t.Helper()
		if got := c.on(s); !got.same(want) {
			t.Errorf("%v on nil answers %v, want %v", c, got, want)
		}
	}
	for _, pid := range append(allPids(), noPids()...) {
		for _, sig := range append(allSigs(), noSigs()...) {
			wantOn(set(pid, sig, 40), answer{e: api.ESRCH})
			wantOn(send(pid, sig), answer{e: api.ESRCH})
			wantOn(fork(pid, sig), answer{})
		}
		wantOn(next(pid), answer{})
		wantOn(enter(pid, at(4, 7)), answer{e: api.ESRCH})
		wantOn(leave(pid), answer{e: api.ESRCH})
		wantOn(clears(pid), answer{})
		wantOn(gone(pid), answer{})
		wantOn(encode(), answer{})
	}
}
