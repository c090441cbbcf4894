package signals_test

import (
	"testing"

	"janus/api"
)

func TestForkOfAFreshOne(t *testing.T) {
	for _, pid := range allPids() {
		for _, child := range allPids() {
			if pid != child {
				play(t, fork(pid, child).ok(), next(child).none(), leave(child).fails(api.EINVAL), send(child, 2).ok(), next(child).tells(2, byDefault))
			}
		}
	}
}

func TestForkGivesHandlers(t *testing.T) {
	for _, pid := range allPids() {
		for _, child := range allPids() {
			if pid == child {
				continue
			}
			var l []step
			for _, sig := range others() {
				l = append(l, set(pid, sig, places()[(sig+pid)%len(places())]).ok())
			}
			l = append(l, fork(pid, child).ok())
			for _, p := range []int{child, pid} {
				for _, sig := range others() {
					l = append(l, send(p, sig).ok(), told(p, sig, places()[(sig+pid)%len(places())]), next(p).none())
				}
				l = append(l, send(p, 9).ok(), next(p).tells(9, byDefault))
			}
			play(t, l...)
		}
	}
}

// Nothing is pending for the child; for its parent it is still.
func TestForkLeavesWhatIsPending(t *testing.T) {
	for _, sig := range allSigs() {
		play(t, joined(sent(1, sig), steps(fork(1, 2).ok()), tells(2), tells(1, sig))...)
	}
	for _, sig := range others() {
		play(t, joined(ignored(1, sig), sent(1, sig), steps(fork(1, 2).ok(), set(2, sig, 40).ok(), next(2).none(), set(1, sig, 40).ok(), next(1).tells(sig, 40)))...)
	}
}

func TestForkInAHandler(t *testing.T) {
	for _, pid := range []int{1, 2, 8} {
		for _, child := range []int{3, 7} {
			for _, v := range machines() {
				play(t, enter(pid, v).ok(), fork(pid, child).ok(), enter(child, at(1)).fails(api.EINVAL), leave(child).gives(v), leave(child).fails(api.EINVAL), leave(pid).gives(v), leave(pid).fails(api.EINVAL))
				play(t, enter(pid, v).ok(), fork(pid, child).ok(), leave(pid).gives(v), enter(pid, at(1)).ok(), leave(child).gives(v), leave(pid).gives(at(1)))
			}
			play(t, enter(pid, at(4)).ok(), fork(pid, child).ok(), send(child, 2).ok(), next(child).none(), leave(child).gives(at(4)), next(child).tells(2, byDefault))
		}
	}
}

// What the child had is no more, whatever its parent has or has not.
func TestForkOverAChildThatHadSome(t *testing.T) {
	had := joined(steps(set(2, 1, 11).ok(), set(2, 15, 12).ok(), enter(2, at(5, 6)).ok()), ignored(2, 4), sent(2, 1, 4, 9, 10))
	play(t, joined(had, steps(fork(1, 2).ok(), next(2).none(), leave(2).fails(api.EINVAL)), sent(2, others()...), tells(2, others()...))...)
	play(t, joined(had, steps(set(1, 1, 40).ok(), enter(1, at(7)).ok(), fork(1, 2).ok(), next(2).none(), leave(2).gives(at(7))), sent(2, 1, 4), steps(
		next(2).tells(1, 40), next(2).tells(4, byDefault), next(2).none()))...)
	play(t, joined(had, ignored(1, 1), steps(fork(1, 2).ok(), set(2, 1, 40).ok(), next(2).none(), set(2, 4, 40).ok(), next(2).none()))...)
	s := play(t, joined(had, steps(fork(1, 2).ok()))...)
	wantSame(t, fork(1, 2), s, fresh(t))
}

// Parent and child go on apart.
func TestForkLeavesThemApart(t *testing.T) {
	l := joined(steps(set(1, 2, 40).ok(), set(1, 3, 41).ok(), enter(1, at(4, 5)).ok(), fork(1, 2).ok(), set(1, 2, 50).ok(), set(2, 3, 51).ok()), sent(1, 2), sent(2, 3))
	play(t, joined(l, steps(
		next(1).none(), leave(1).gives(at(4, 5)), next(1).tells(2, 50), next(1).none(), send(1, 3).ok(), next(1).tells(3, 41),
		next(2).none(), leave(2).gives(at(4, 5)), next(2).tells(3, 51), next(2).none(), send(2, 2).ok(), next(2).tells(2, 40)))...)
	play(t, joined(l, steps(gone(1).ok(), leave(1).fails(api.EINVAL), leave(2).gives(at(4, 5)), next(2).tells(3, 51), send(2, 2).ok(), next(2).tells(2, 40)))...)
	play(t, joined(l, steps(clears(2).ok(), leave(2).fails(api.EINVAL), leave(1).gives(at(4, 5)), next(1).tells(2, 50), next(2).tells(3, byDefault)))...)
}

func TestForkOfAFork(t *testing.T) {
	l := steps(set(1, 2, 40).ok(), enter(1, at(4, 5)).ok())
	for pid := 1; pid < lastPid; pid++ {
		l = append(l, fork(pid, pid+1).ok(), leave(pid).gives(at(4, 5)))
	}
	play(t, append(l, leave(lastPid).gives(at(4, 5)), send(lastPid, 2).ok(), next(lastPid).tells(2, 40))...)
}

// Of a process to itself, and with what is no process, it does nothing.
func TestForkOfTheSame(t *testing.T) {
	for _, pid := range allPids() {
		wantSame(t, fork(pid, pid), play(t, append(busy(), fork(pid, pid).ok())...), play(t, busy()...))
	}
}

func TestForkWithWhatIsNoProcess(t *testing.T) {
	for _, no := range noPids() {
		for _, c := range []call{fork(1, no), fork(no, 1), fork(no, 2), fork(8, no), fork(no, no), fork(no, 0)} {
			wantSame(t, c, play(t, append(busy(), c.ok())...), play(t, busy()...))
		}
	}
}
