package unix_test

import (
	"slices"
	"testing"

	"janus/api"
	"janus/blocks"
	"janus/fds"
	"janus/unix"
)

// The chapter's example.
func TestExample(t *testing.T) {
	play(t,
		begin(1).ok(), write(1, 1, "hi").shows(), pipe(1).two(3, 4), read(1, 3, 5).waits(), write(1, 4, "ab").gives(2), read(1, 3, 5).reads("ab"),
		closes(1, 4).ok(), read(1, 3, 5).reads(""))
}

func TestBegin(t *testing.T) {
	for _, pid := range append(noPids(), 2, 3, 8) {
		play(t, begin(pid).fails(api.EAGAIN), pids().are(), begin(1).ok(), begin(pid).fails(api.EAGAIN), pids().are(1))
	}
	play(t, pids().are(), begin(1).ok(), pids().are(1), begin(1).fails(api.EAGAIN), begin(2).fails(api.EAGAIN), pids().are(1))
	for _, pid := range []int{1, 2} { // one of two is left, whoever that is
		play(t, begin(1).ok(), fork(1).gives(2), exit(pid, 0).ok(), pids().are(3-pid), begin(1).fails(api.EAGAIN), begin(2).fails(api.EAGAIN), pids().are(3-pid))
	}
	l := begun(2)
	for _, pid := range []int{3, 1, 2} {
		l = append(l, begin(1).fails(api.EAGAIN), exit(pid, 7).ok())
	}
	play(t, append(l, pids().are(), begin(1).ok(), wait(1).fails(api.ECHILD), begin(1).fails(api.EAGAIN))...)
}

// Descriptors 0, 1 and 2 are consoles, each one of its own, and the others are free.
func TestBeginOpensConsoles(t *testing.T) {
	w := play(t, begin(1).ok(), write(1, 0, "a").shows(), write(1, 1, "b").shows(), write(1, 2, "c").shows(),
		read(1, 0, 2).takes("ty"), read(1, 1, 2).takes("pe"), read(1, 2, 3).takes("d w"))
	if w.out != "abc" {
		t.Errorf("the console shows %q", w.out)
	}
	for fd := uint64(3); fd < 8; fd++ {
		play(t, begin(1).ok(), read(1, fd, 1).fails(api.EBADF))
	}
	want := []uint64{3, 1, 0, 0, 0, 1, 0, 0, 0, 1, 0, 0, 0, 1, 2, 3, 0, 0, 0}
	if got := cut(t, play(t, begin(1).ok()).c.Encode())[0]; len(got) != 61 || !slices.Equal(got[:19], want) {
		t.Errorf("the descriptors' words are %v", got)
	}
}

func TestLiveAndPids(t *testing.T) {
	l := steps(pids().are())
	for pid := 1; pid <= lastPid; pid++ {
		l = append(l, live(pid).no())
	}
	l = append(l, begun(7)...)
	for pid := 1; pid <= lastPid; pid++ {
		l = append(l, live(pid).yes())
	}
	for _, pid := range noPids() {
		l = append(l, live(pid).no())
	}
	play(t, append(l, pids().are(1, 2, 3, 4, 5, 6, 7, 8),
		exit(5, 0).ok(), live(5).no(), pids().are(1, 2, 3, 4, 6, 7, 8),
		wait(1).told(5, 0), live(5).no(), pids().are(1, 2, 3, 4, 6, 7, 8),
		fork(8).gives(5), live(5).yes(), exit(1, 0).ok(), live(1).no(), pids().are(2, 3, 4, 5, 6, 7, 8))...)
}

func TestSignalWithNonePending(t *testing.T) {
	play(t, next(1, at(5, 6)).no(), begin(1).ok(), next(1, at(5, 6)).no(), saved(1).no(), signal(1, 3, 40).ok(), next(1, at(5, 6)).no(), saved(1).no())
}

func TestSignalByDefault(t *testing.T) {
	for sig := 1; sig <= lastSig; sig++ {
		play(t, append(begun(1), kill(1, 2, uint64(sig)).ok(), next(1, at(5)).no(), next(2, at(5, 6)).tells(sig, byDefault), saved(2).no(), next(2, at(5, 6)).no())...)
	}
	play(t, begin(1).ok(), kill(1, 1, 12).ok(), kill(1, 1, 3).ok(), kill(1, 1, 3).ok(), kill(1, 1, 9).ok(),
		next(1, at(5)).tells(9, byDefault), next(1, at(5)).tells(3, byDefault), next(1, at(5)).tells(12, byDefault), next(1, at(5)).no())
}

func TestSignalToIgnore(t *testing.T) {
	play(t, begin(1).ok(), signal(1, 3, toIgnore).ok(), kill(1, 1, 3).ok(), next(1, at(5)).no(), saved(1).no(),
		kill(1, 1, 3).ok(), kill(1, 1, 4).ok(), next(1, at(5)).tells(4, byDefault), signal(1, 3, 8).ok(), next(1, at(5)).no())
}

// What is no default and not to ignore is a place, wherever it is.
func TestSignalWithAPlace(t *testing.T) {
	for _, h := range []uint64{0, 1, 191, 255, 1 << 20, 1<<32 - 1, 1 << 32, 1<<63 - 2, 1<<63 - 1, 1 << 63, 1<<64 - 3} {
		play(t, begin(1).ok(), signal(1, 3, h).ok(), kill(1, 1, 3).ok(), next(1, at(5, 6, 7)).tells(3, h), saved(1).is(at(5, 6, 7)), saved(1).is(at(5, 6, 7)),
			sigret(1).ok(), saved(1).no(), sigret(1).fails(api.EINVAL))
	}
}

func TestSignalWithinAHandler(t *testing.T) {
	play(t, begin(1).ok(), signal(1, 3, 40).ok(), signal(1, 4, 44).ok(), kill(1, 1, 3).ok(), kill(1, 1, 4).ok(), kill(1, 1, 2).ok(),
		next(1, at(5, 6)).tells(2, byDefault), next(1, at(5, 6)).tells(3, 40), next(1, at(7, 8)).no(), saved(1).is(at(5, 6)),
		kill(1, 1, 9).ok(), next(1, at(9)).tells(9, byDefault), saved(1).is(at(5, 6)),
		sigret(1).ok(), next(1, at(10)).tells(4, 44), saved(1).is(at(10)), kill(1, 1, 4).ok(), next(1, at(11)).no(), saved(1).is(at(10)))
}

// Each process has its own.
func TestSignalOfSeveral(t *testing.T) {
	play(t, append(begun(1), signal(1, 3, 40).ok(), signal(2, 3, 50).ok(), kill(1, 2, 3).ok(), kill(2, 1, 3).ok(),
		next(2, at(2, 2)).tells(3, 50), saved(1).no(), saved(2).is(at(2, 2)), next(1, at(1, 1)).tells(3, 40), saved(1).is(at(1, 1)), saved(2).is(at(2, 2)),
		sigret(1).ok(), saved(1).no(), saved(2).is(at(2, 2)))...)
}

func TestSignalAndSavedOfWhatDoesNotLive(t *testing.T) {
	l := append(begun(1), signal(2, 3, 40).ok(), kill(1, 2, 3).ok(), next(2, at(4)).tells(3, 40), kill(1, 2, 4).ok(), exit(2, 0).ok())
	for _, pid := range append(noPids(), 2, 3, 8) {
		l = append(l, next(pid, at(5, 6)).no(), saved(pid).no())
	}
	play(t, append(l, wait(1).told(2, 0), fork(1).gives(2), next(2, at(7)).no(), saved(2).no())...)
}

func TestSavedOfAnEmptyStackAndAFullOne(t *testing.T) {
	full := make([]uint64, 32)
	for i := range full {
		full[i] = uint64(i) << 58
	}
	for _, v := range []api.Vm{{}, at(0), at(1<<20, full...), at(191, 0)} {
		play(t, begin(1).ok(), signal(1, 15, 0).ok(), kill(1, 1, 15).ok(), next(1, v).tells(15, 0), saved(1).is(v), sigret(1).ok(), saved(1).no())
	}
}

// A child is where its parent is, with the same machine.
func TestSavedOfAChild(t *testing.T) {
	play(t, begin(1).ok(), signal(1, 3, 40).ok(), kill(1, 1, 3).ok(), next(1, at(5, 6)).tells(3, 40), fork(1).gives(2),
		saved(2).is(at(5, 6)), sigret(1).ok(), saved(1).no(), saved(2).is(at(5, 6)), sigret(2).ok(), saved(2).no())
}

func TestKillOfWhatDoesNotLive(t *testing.T) {
	l := append(begun(1), exit(2, 7).ok())
	for _, pid := range append(noPids(), 2, 3, 8) {
		l = append(l, killed(pid, 5).ok(), pids().are(1))
	}
	play(t, append(l, wait(1).told(2, 7), wait(1).fails(api.ECHILD))...)
	w := fresh(t)
	was := w.snap()
	for _, pid := range append(noPids(), 1, 2, 8) {
		w.c.Kill(w.d, pid, 5)
		if !slices.Equal(w.snap(), was) {
			t.Errorf("Kill(%d) changes something", pid)
		}
	}
}

// The status is told as it is, here: only SysExit has bits of it.
func TestKillWithAnyStatus(t *testing.T) {
	for _, status := range append(farOff(), 0, 1, -1, 139) {
		play(t, append(begun(1), killed(2, status).ok(), live(2).no(), pids().are(1), wait(1).told(2, status), wait(1).fails(api.ECHILD))...)
	}
}

func TestKillOfParents(t *testing.T) {
	play(t, append(begun(1), fork(2).gives(3), fork(2).gives(4), killed(4, 9).ok(), killed(2, 8).ok(),
		pids().are(1, 3), wait(1).told(2, 8), wait(1).fails(api.ECHILD), fork(1).gives(2), fork(1).gives(4), killed(3, 7).ok(), fork(1).gives(3))...)
	play(t, begin(1).ok(), killed(1, 5).ok(), pids().are(), begin(1).ok(), pids().are(1))
}

// What a child has is the parent's too, till both are gone.
func TestKillWithSharedFiles(t *testing.T) {
	play(t, begin(1).ok(), open(1, "/f", 0).gives(3), fork(1).gives(2), unlink(2, "/f").ok(), killed(1, 0).ok(),
		read(2, 3, 9).reads("hello"), open(2, "/f", 0).fails(api.ENOENT), killed(2, 0).ok())
	for _, first := range []int{1, 2} {
		w := play(t, begin(1).ok(), open(1, "/f", 0).gives(3), fork(1).gives(2), unlink(2, "/f").ok(), killed(first, 0).ok())
		wantInode(t, w, fInode, 0, "hello")
		w.c.Kill(w.d, 3-first, 0)
		wantFreed(t, w, fInode)
	}
}

// Two files of one process on one inode, and one file of two descriptors.
func TestKillWithSeveralOnOne(t *testing.T) {
	for _, l := range [][]step{
		{open(1, "/f", 0).gives(3), open(1, "/f", 0).gives(4)},
		{open(1, "/f", 0).gives(3), dup(1, 3).gives(4)},
		{open(1, "/f", 0).gives(3), dup(1, 3).gives(4), open(1, "/f", 4).gives(5)},
	} {
		w := play(t, joined(steps(begin(1).ok()), l, steps(unlink(1, "/f").ok()))...)
		wantInode(t, w, fInode, 0, "hello")
		w.c.Kill(w.d, 1, 0)
		wantFreed(t, w, fInode)
	}
	w := play(t, begin(1).ok(), open(1, "/f", 0).gives(3), open(1, "/d/g", 0).gives(4), unlink(1, "/d/g").ok(), killed(1, 0).ok())
	wantInode(t, w, fInode, 1, "hello") // one that has its name stays
	wantFreed(t, w, gInode)
}

func TestKillWithPipes(t *testing.T) {
	w := play(t, begin(1).ok(), pipe(1).two(3, 4), write(1, 4, "abc").gives(3), fork(1).gives(2), closes(1, 3).ok(), closes(2, 4).ok(),
		killed(1, 0).ok(), read(2, 3, 9).reads("abc"), read(2, 3, 9).reads(""), killed(2, 0).ok())
	if got := cut(t, w.c.Encode())[1]; !slices.Equal(got, make([]uint64, 16)) {
		t.Errorf("the pipes' words are %v", got)
	}
	play(t, begin(1).ok(), pipe(1).two(3, 4), fork(1).gives(2), killed(2, 0).ok(), read(1, 3, 9).waits(), write(1, 4, "abc").gives(3), killed(1, 0).ok())
}

// wantInode asks for a file on the disk, with that text.
func wantInode(t *testing.T, w *world, i, links int, text string) {
	t.Helper()
	x, data := inodeOf(t, w.d, i)
	if x.Kind != api.InodeFile || x.Links != links || data != text {
		t.Errorf("inode %d is %v, %q, want %d links, %q", i, x, data, links, text)
	}
}

func wantFreed(t *testing.T, w *world, i int) {
	t.Helper()
	if x, _ := inodeOf(t, w.d, i); x != (api.Inode{}) {
		t.Errorf("inode %d is %v", i, x)
	}
}

// Whoever does not live can do nothing, whatever the call.
func TestDoByWhatDoesNotLive(t *testing.T) {
	w := play(t, append(begun(1), open(2, "/f", 0).gives(3), exit(2, 0).ok())...)
	was := w.snap()
	for _, pid := range append(noPids(), 2, 3, 8) {
		for n := -1; n < 25; n++ {
			for _, fd := range []uint64{0, 1, 3, 9} {
				x := api.Call{N: n, A: fd, B: 1, C: 1, Text: "/f", Text2: "/new"}
				if ret, shown, taken, waits := w.c.Do(w.d, pid, x, "in"); ret != (api.Ret{Err: api.ESRCH}) || shown != "" || taken != 0 || waits {
					t.Errorf("Do(%d, %v) = %v, %q, %d, %v", pid, x, ret, shown, taken, waits)
				}
			}
		}
	}
	if !slices.Equal(w.snap(), was) {
		t.Error("something is changed")
	}
}

func TestNumbersThatAreNoCall(t *testing.T) {
	l := steps(begin(1).ok())
	for _, n := range append(farOff(), 0, -1, 20, 21, 22) {
		if n == api.SysSignal || n == api.SysGetpid {
			continue
		}
		l = append(l, does(1, api.Call{N: n}).fails(api.EINVAL), does(1, api.Call{N: n, A: 1, B: 1, C: 1, Text: "/f", Text2: "/new"}).fails(api.EINVAL))
	}
	play(t, l...)
}

func TestGetpidAndYield(t *testing.T) {
	l := begun(7)
	for pid := 1; pid <= lastPid; pid++ {
		l = append(l, getpid(pid).gives(pid), yield(pid).ok(), does(pid, api.Call{N: api.SysGetpid, A: 9, B: 9, C: 9, Text: "x", Text2: "y"}).gives(pid))
	}
	w := play(t, l...)
	was := w.snap()
	for pid := 1; pid <= lastPid; pid++ {
		getpid(pid).on(w)
		yield(pid).on(w)
	}
	if !slices.Equal(w.snap(), was) {
		t.Error("something is changed")
	}
}

func TestNil(t *testing.T) {
	var c *unix.Core
	d := blocks.New(20)
	for _, pid := range append(noPids(), 1, 2, 8) {
		if e := c.Begin(pid); e != api.ESRCH {
			t.Errorf("Begin answers %d", e)
		}
		if n, h, is := c.Signal(pid, at(5, 6)); n != 0 || h != 0 || is {
			t.Errorf("Signal answers %d, %d, %v", n, h, is)
		}
		for n := -1; n < 25; n++ {
			for _, s := range []api.Store{nil, d} {
				ret, shown, taken, waits := c.Do(s, pid, api.Call{N: n, A: 1, C: 1, Text: "x"}, "in")
				if ret != (api.Ret{Err: api.ESRCH}) || shown != "" || taken != 0 || waits {
					t.Errorf("Do answers %v, %q, %d, %v", ret, shown, taken, waits)
				}
				c.Kill(s, pid, n)
			}
		}
		if v, is := c.Saved(pid); !sameVm(v, api.Vm{}) || is || c.Live(pid) {
			t.Errorf("Saved answers %v, %v, Live %v", v, is, c.Live(pid))
		}
	}
	if p, w := c.Pids(), c.Encode(); len(p) != 0 || len(w) != 0 {
		t.Errorf("Pids answers %v, Encode %v", p, w)
	}
}

// What no call gave does not panic either.
func TestZeroCore(t *testing.T) {
	w := fresh(t)
	w.c = &unix.Core{}
	for _, c := range usesUp() {
		c.on(w)
	}
	for _, pid := range noPids() {
		killed(pid, 1).on(w)
	}
}

// R5: the same calls answer the same, whatever other things were done to others.
func TestApart(t *testing.T) {
	w, other := fresh(t), fresh(t)
	for _, c := range usesUp() {
		c.on(other)
	}
	begin(1).on(other)
	if got := fresh(t).c.Encode(); !slices.Equal(w.c.Encode(), got) {
		t.Error("what is done to one is told of another")
	}
	if f, e := fds.Decode(cut(t, w.c.Encode())[0]); e != api.OK || f.Left(1) != 6 {
		t.Errorf("a new one has descriptors")
	}
}
