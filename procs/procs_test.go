package procs_test

import (
	"slices"
	"testing"

	"janus/api"
	"janus/procs"
)

func TestTheDocumentsExample(t *testing.T) {
	play(t, begin().gives(1), fork(1).gives(2), fork(2).gives(3), exit(3, 5).ok(), wait(2).tells(3, 5), exit(2, 0).ok(), wait(1).tells(2, 0), wait(1).fails(api.ECHILD))
}

func TestNewHasNone(t *testing.T) {
	l := steps(all().are())
	for _, pid := range append(allPids(), noPids()...) {
		l = append(l, live(pid).no(), parent(pid).gives(-1), fork(pid).fails(api.ESRCH), exit(pid, 3).fails(api.ESRCH), wait(pid).fails(api.ESRCH))
	}
	play(t, append(l, begin().gives(1))...)
}

func TestBeginOfNone(t *testing.T) {
	play(t, begin().gives(1), live(1).yes(), parent(1).gives(0), all().are(1), wait(1).fails(api.ECHILD))
}

func TestBeginOfSome(t *testing.T) {
	play(t, begin().gives(1), begin().gives(0), begin().gives(0), fork(1).gives(2), begin().gives(0))
	play(t, append(flat(), begin().gives(0))...)
	play(t, append(busy(), begin().gives(0))...)
	// 1 is gone, but there are others
	play(t, append(begun(1), exit(1, 0).ok(), live(1).no(), parent(1).gives(-1), all().are(2), begin().gives(0), fork(2).gives(1), parent(1).gives(2), begin().gives(0))...)
	// 1 is a zombie
	play(t, append(begun(1), exit(1, 0).ok(), fork(2).gives(1), exit(1, 7).ok(), all().are(2), begin().gives(0), wait(2).tells(1, 7), begin().gives(0))...)
}

func TestBeginBehindTheLastOnesEnd(t *testing.T) {
	for _, status := range statuses() {
		play(t, begin().gives(1), exit(1, status).ok(), live(1).no(), parent(1).gives(-1), all().are(), begin().gives(1), live(1).yes(), parent(1).gives(0), wait(1).fails(api.ECHILD))
	}
	// the last one leaves a zombie, which is gone with it
	play(t, append(begun(1), exit(2, 5).ok(), exit(1, 6).ok(), all().are(), parent(2).gives(-1), begin().gives(1), fork(1).gives(2))...)
	// the last one is another than 1
	play(t, append(begun(1), exit(1, 6).ok(), exit(2, 5).ok(), begin().gives(1), fork(1).gives(2), wait(1).waits())...)
	l := chain()
	for _, pid := range []int{3, 1, 8, 2, 6, 4, 5} {
		l = append(l, exit(pid, pid).ok(), begin().gives(0))
	}
	p := play(t, append(l, all().are(7), exit(7, 7).ok(), begin().gives(1))...)
	wantSame(t, begin(), p, play(t, begin().gives(1)))
}

func TestForkUpToAll(t *testing.T) {
	for _, l := range [][]step{flat(), chain(), begun(1, 2, 2, 3, 3, 1, 5)} {
		for _, pid := range allPids() {
			l = append(l, live(pid).yes())
		}
		l = append(l, all().are(allPids()...))
		for _, pid := range allPids() {
			l = append(l, fork(pid).fails(api.EAGAIN))
		}
		for _, pid := range noPids() { // ESRCH comes first
			l = append(l, fork(pid).fails(api.ESRCH))
		}
		play(t, l...)
	}
}

func TestForkMakesAChild(t *testing.T) {
	for n := 1; n < lastPid; n++ {
		for pid := 1; pid <= n; pid++ {
			play(t, append(begun(slices.Repeat([]int{1}, n-1)...), fork(pid).gives(n+1), parent(n+1).gives(pid), live(n+1).yes(), wait(n+1).fails(api.ECHILD), wait(pid).waits())...)
		}
	}
}

// Where some are gone, the lowest of them comes first, whichever was gone first.
func TestForkTakesTheLowest(t *testing.T) {
	for a := 2; a <= lastPid; a++ {
		play(t, append(flat(), exit(a, 3).ok(), wait(1).tells(a, 3), fork(1).gives(a), fork(1).fails(api.EAGAIN))...)
		for b := 2; b <= lastPid; b++ {
			if a == b {
				continue
			}
			play(t, append(flat(), exit(a, 3).ok(), wait(1).tells(a, 3), exit(b, 4).ok(), wait(1).tells(b, 4), fork(1).gives(min(a, b)), fork(min(a, b)).gives(max(a, b)), fork(1).fails(api.EAGAIN))...)
		}
	}
	for _, pid := range []int{2, 5, 8} { // 1 too
		play(t, append(flat(), exit(1, 3).ok(), fork(pid).gives(1), parent(1).gives(pid), fork(1).fails(api.EAGAIN))...)
	}
}

// A zombie's pid is in use till it is told, or its parent ends.
func TestForkLeavesZombiesTheirPids(t *testing.T) {
	for _, z := range allBut(1) {
		play(t, append(flat(), exit(z, 3).ok(), fork(1).fails(api.EAGAIN), wait(1).tells(z, 3), fork(1).gives(z), live(z).yes())...)
	}
	play(t, append(begun(1, 1), exit(2, 3).ok(), fork(1).gives(4), wait(1).tells(2, 3), fork(1).gives(2))...)
	play(t, append(chain(), exit(4, 3).ok(), exit(3, 4).ok(), fork(1).gives(4), fork(1).fails(api.EAGAIN))...)
}

func TestForkOfWhatDoesNotLive(t *testing.T) {
	for _, pid := range noPids() {
		play(t, append(begun(1), fork(pid).fails(api.ESRCH), fork(1).gives(3))...)
	}
	play(t, append(begun(1), exit(2, 0).ok(), fork(2).fails(api.ESRCH), wait(1).tells(2, 0), fork(2).fails(api.ESRCH), fork(3).fails(api.ESRCH), fork(8).fails(api.ESRCH))...)
	play(t, append(begun(1), exit(1, 0).ok(), fork(1).fails(api.ESRCH), fork(2).gives(1))...)
	play(t, append(flat(), exit(5, 0).ok(), fork(5).fails(api.ESRCH), wait(1).tells(5, 0), fork(5).fails(api.ESRCH))...)
}

func TestExitOfWhatDoesNotLive(t *testing.T) {
	for _, status := range []int{0, 7, -1} {
		for _, pid := range noPids() {
			play(t, append(begun(1), exit(pid, status).fails(api.ESRCH))...)
		}
		play(t, append(begun(1), exit(3, status).fails(api.ESRCH), exit(8, status).fails(api.ESRCH))...)
		// a zombie's status stays as it was told first
		play(t, append(begun(1), exit(2, 5).ok(), exit(2, status).fails(api.ESRCH), wait(1).tells(2, 5), exit(2, status).fails(api.ESRCH))...)
		play(t, append(begun(1), exit(1, 5).ok(), exit(1, status).fails(api.ESRCH), all().are(2))...)
	}
}

func TestExitMakesAZombie(t *testing.T) {
	for _, pid := range allBut(1) {
		for _, status := range statuses() {
			play(t, append(flat(), exit(pid, status).ok(), live(pid).no(), parent(pid).gives(1), all().are(allBut(pid)...), wait(pid).fails(api.ESRCH), wait(1).tells(pid, status), parent(pid).gives(-1))...)
			play(t, append(chain(), exit(pid, status).ok(), live(pid).no(), parent(pid).gives(pid-1), wait(pid-1).tells(pid, status), parent(pid).gives(-1))...)
		}
	}
}

// They are nobody's, and live on.
func TestExitWithChildrenThatLive(t *testing.T) {
	for _, pid := range allBut(8) {
		l := append(chain(), exit(pid, 0).ok(), parent(pid+1).gives(0), live(pid+1).yes())
		for _, other := range allBut(pid, pid+1) {
			l = append(l, parent(other).gives(other-1), live(other).yes())
		}
		play(t, l...)
	}
	l := append(flat(), exit(1, 0).ok())
	for _, pid := range allBut(1) {
		l = append(l, parent(pid).gives(0), live(pid).yes())
	}
	play(t, append(l, all().are(allBut(1)...))...)
	// when they end, they are gone at once, told to nobody
	play(t, append(begun(1, 2, 2), exit(2, 5).ok(), exit(3, 6).ok(), parent(3).gives(-1), wait(1).tells(2, 5), wait(1).fails(api.ECHILD), fork(1).gives(2), fork(1).gives(3), live(4).yes())...)
}

// They are gone with it.
func TestExitWithChildrenThatAreZombies(t *testing.T) {
	play(t, append(begun(1, 2, 2, 1), exit(3, 6).ok(), exit(4, 7).ok(), exit(2, 5).ok(), parent(3).gives(-1), parent(4).gives(-1), parent(2).gives(1), wait(1).tells(2, 5), wait(1).waits(), all().are(1, 5), fork(5).gives(2), fork(5).gives(3), fork(5).gives(4))...)
	play(t, append(flat(), exit(3, 6).ok(), exit(8, 7).ok(), exit(1, 5).ok(), all().are(2, 4, 5, 6, 7), parent(3).gives(-1), parent(8).gives(-1), fork(2).gives(1), fork(2).gives(3), fork(2).gives(8), fork(2).fails(api.EAGAIN))...)
}

func TestExitWithChildrenOfBothKinds(t *testing.T) {
	play(t, append(begun(1, 2, 2, 3, 4), exit(3, 6).ok(), exit(2, 5).ok(), parent(3).gives(-1), parent(4).gives(0), parent(5).gives(0), parent(6).gives(4), all().are(1, 4, 5, 6), wait(1).tells(2, 5), wait(4).waits(), wait(5).fails(api.ECHILD))...)
	play(t, append(busy(), exit(5, 0).ok(), parent(5).gives(-1), parent(8).gives(-1), parent(3).gives(0), parent(6).gives(0), parent(2).gives(1), all().are(1, 3, 6))...)
	play(t, append(busy(), exit(1, 0).ok(), parent(1).gives(-1), parent(2).gives(-1), parent(7).gives(-1), parent(8).gives(5), all().are(3, 5, 6), fork(6).gives(1))...)
}

// All of them, however many are nobody's, and only they.
func TestExitTellsNothingOfOthers(t *testing.T) {
	play(t, append(begun(1, 1, 2, 3, 2, 3), exit(4, 40).ok(), exit(5, 50).ok(), exit(6, 60).ok(), exit(2, 20).ok(),
		parent(4).gives(-1), parent(6).gives(-1), parent(5).gives(3), parent(7).gives(3), wait(3).tells(5, 50), wait(3).waits(), wait(1).tells(2, 20), wait(1).waits())...)
}

func TestWaitOfWhatDoesNotLive(t *testing.T) {
	for _, pid := range noPids() {
		play(t, append(begun(1), exit(2, 5).ok(), wait(pid).fails(api.ESRCH), wait(1).tells(2, 5))...)
	}
	play(t, append(begun(1, 2), wait(4).fails(api.ESRCH), exit(2, 5).ok(), wait(2).fails(api.ESRCH), wait(1).tells(2, 5), wait(2).fails(api.ESRCH))...)
	play(t, append(begun(1), exit(1, 5).ok(), wait(1).fails(api.ESRCH))...)
}

func TestWaitWithoutChildren(t *testing.T) {
	play(t, append(begun(1, 2), wait(3).fails(api.ECHILD), exit(3, 0).ok(), wait(2).tells(3, 0), wait(2).fails(api.ECHILD), wait(2).fails(api.ECHILD))...)
	// a child's children are none, and those that are nobody's are nobody's
	play(t, append(begun(1, 2), exit(2, 4).ok(), wait(1).tells(2, 4), wait(1).fails(api.ECHILD), wait(3).fails(api.ECHILD), exit(3, 0).ok(), wait(1).fails(api.ECHILD))...)
	play(t, append(begun(1, 1), exit(1, 4).ok(), wait(2).fails(api.ECHILD), wait(3).fails(api.ECHILD))...)
}

func TestWaitWithChildrenThatLive(t *testing.T) {
	play(t, append(begun(1), wait(1).waits(), wait(1).waits(), exit(2, 5).ok(), wait(1).tells(2, 5))...)
	play(t, append(begun(1, 2), exit(3, 5).ok(), wait(1).waits(), wait(2).tells(3, 5), wait(1).waits())...)
	for _, pid := range allBut(8) {
		play(t, append(chain(), exit(8, 5).ok(), step{wait(pid), waitsOr8(pid)})...)
	}
}

// waitsOr8 is what Wait of one of a chain tells, whose last one ended with 5.
func waitsOr8(pid int) answer {
	if pid == 7 {
		return answer{n: 8, status: 5, is: true}
	}
	return answer{}
}

func TestWaitTellsTheLowest(t *testing.T) {
	for a := 2; a <= lastPid; a++ {
		for b := 2; b <= lastPid; b++ {
			if a != b {
				play(t, append(flat(), exit(a, 10+a).ok(), exit(b, 10+b).ok(), wait(1).tells(min(a, b), 10+min(a, b)), wait(1).tells(max(a, b), 10+max(a, b)), wait(1).waits())...)
			}
		}
	}
	for _, order := range [][]int{{2, 3, 4, 5, 6, 7, 8}, {8, 7, 6, 5, 4, 3, 2}, {5, 2, 8, 3, 7, 4, 6}} {
		l := flat()
		for _, pid := range order {
			l = append(l, exit(pid, -pid).ok())
		}
		for _, pid := range allBut(1) {
			l = append(l, wait(1).tells(pid, -pid))
		}
		play(t, append(l, wait(1).fails(api.ECHILD))...)
	}
	// the parent's own pid plays no part
	play(t, append(flat(), exit(1, 0).ok(), fork(8).gives(1), exit(1, 3).ok(), wait(8).tells(1, 3))...)
}

func TestWaitTellsOnce(t *testing.T) {
	for _, pid := range allBut(1) {
		for _, status := range statuses() {
			l := append(flat(), exit(pid, status).ok(), wait(1).tells(pid, status), wait(1).waits())
			play(t, append(l, fork(1).gives(pid), wait(1).waits(), exit(pid, status).ok(), wait(1).tells(pid, status), wait(1).waits())...)
		}
	}
}

// Each parent is told its own alone.
func TestWaitTellsOnlyItsParent(t *testing.T) {
	l := append(begun(1, 1, 2, 2, 3, 3, 1), exit(7, 70).ok(), exit(4, 40).ok(), exit(6, 60).ok(), exit(5, 50).ok())
	play(t, append(l, wait(1).waits(), wait(8).fails(api.ECHILD), wait(3).tells(6, 60), wait(2).tells(4, 40), wait(3).tells(7, 70), wait(3).fails(api.ECHILD), wait(2).tells(5, 50), wait(2).fails(api.ECHILD), wait(1).waits())...)
}

func TestParent(t *testing.T) {
	l := chain()
	for _, pid := range allPids() {
		l = append(l, parent(pid).gives(pid-1))
	}
	for _, pid := range noPids() {
		l = append(l, parent(pid).gives(-1))
	}
	play(t, append(l, exit(8, 0).ok(), parent(8).gives(7), wait(7).tells(8, 0), parent(8).gives(-1), fork(2).gives(8), parent(8).gives(2))...)
}

func TestAllIsRising(t *testing.T) {
	play(t, append(flat(), exit(1, 0).ok(), all().are(2, 3, 4, 5, 6, 7, 8), exit(5, 0).ok(), all().are(2, 3, 4, 6, 7, 8), fork(8).gives(1), fork(1).gives(5), all().are(allPids()...), exit(1, 4).ok(), all().are(2, 3, 4, 5, 6, 7, 8))...)
	play(t, append(busy(), all().are(1, 3, 5, 6))...)
	for range 50 { // whatever order a map tells them in
		p := again(t, flat())
		if got := p.All(); !slices.Equal(got, allPids()) {
			t.Fatalf("All() = %v", got)
		}
	}
}

func TestNil(t *testing.T) {
	var p *procs.Procs
	wantOn := func(c call, want answer) {
		t.Helper()
		if got := c.on(p); !got.same(want) {
			t.Errorf("%v on nil answers %v, want %v", c, got, want)
		}
	}
	for range 2 {
		wantOn(begin(), answer{})
		for _, pid := range append(allPids(), noPids()...) {
			wantOn(fork(pid), answer{e: api.ESRCH})
			wantOn(exit(pid, 5), answer{e: api.ESRCH})
			wantOn(wait(pid), answer{e: api.ESRCH})
			wantOn(live(pid), answer{})
			wantOn(parent(pid), answer{})
		}
		wantOn(all(), answer{})
		wantOn(encode(), answer{})
	}
}

// One that New did not make is taken as one without processes.
func TestNotMadeByNew(t *testing.T) {
	for _, l := range [][]step{steps(), flat(), busy()} {
		p := &procs.Procs{}
		for _, x := range l {
			x.on(p)
		}
		wantSame(t, encode(), p, again(t, l))
	}
}
