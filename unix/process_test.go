package unix_test

import (
	"math"
	"slices"
	"strings"
	"testing"

	"janus/api"
)

func TestExitStatus(t *testing.T) {
	for a, want := range map[uint64]int{0: 0, 1: 1, 127: 127, 128: 128, 255: 255, 256: 0, 257: 1, 511: 255, 0x1234: 0x34, 1 << 32: 0, 1<<63 + 5: 5, math.MaxUint64: 255, math.MaxUint64 - 1: 254} {
		play(t, append(begun(1), exit(2, a).gives(0), live(2).no(), pids().are(1), wait(1).told(2, want), wait(1).fails(api.ECHILD))...)
	}
}

func TestExitClosesAll(t *testing.T) {
	w := play(t, begin(1).ok(), open(1, "/f", 0).gives(3), pipe(1).two(4, 5), unlink(1, "/f").ok(), signal(1, 3, 40).ok(), kill(1, 1, 3).ok(), exit(1, 4).ok(), pids().are(), begin(1).ok())
	wantFreed(t, w, fInode)
	if !slices.Equal(w.c.Encode(), play(t, begin(1).ok()).c.Encode()) {
		t.Error("something of the first one is left")
	}
}

func TestExitOfParents(t *testing.T) {
	play(t, append(begun(1), fork(2).gives(3), fork(2).gives(4), exit(4, 9).ok(), exit(2, 8).ok(), pids().are(1, 3), exit(3, 7).ok(), fork(1).gives(3),
		wait(1).told(2, 8), wait(1).waits(), exit(1, 1).ok(), pids().are(3), fork(3).gives(1), fork(3).gives(2))...)
}

func TestForkUpToAll(t *testing.T) {
	l := append(begun(7), fork(1).fails(api.EAGAIN), fork(8).fails(api.EAGAIN), exit(4, 0).ok(), fork(8).fails(api.EAGAIN), // a zombie's pid is in use
		wait(1).told(4, 0), fork(8).gives(4), fork(8).fails(api.EAGAIN), exit(8, 0).ok(), exit(4, 0).ok(), fork(1).gives(4), wait(1).told(8, 0), fork(4).gives(8))
	play(t, l...)
	chain := steps(begin(1).ok())
	for pid := 1; pid < lastPid; pid++ {
		chain = append(chain, fork(pid).gives(pid+1))
	}
	play(t, append(chain, fork(8).fails(api.EAGAIN), pids().are(1, 2, 3, 4, 5, 6, 7, 8))...)
}

// Parent and child have the same files, and are at the same place in them.
func TestForkSharesPlaces(t *testing.T) {
	play(t, begin(1).ok(), open(1, "/f", 0).gives(3), read(1, 3, 1).reads("h"), fork(1).gives(2), read(2, 3, 2).reads("el"), read(1, 3, 1).reads("l"), write(2, 3, "p!").gives(2),
		open(1, "/f", 0).gives(4), read(1, 4, 9).reads("hellp!"), read(2, 4, 1).fails(api.EBADF), closes(1, 3).ok(), read(2, 3, 1).reads(""), closes(2, 3).ok(), read(2, 3, 1).fails(api.EBADF))
}

// What a child opens is its own, and what it closes stays open.
func TestForkLeavesTablesApart(t *testing.T) {
	play(t, append(begun(1), closes(2, 1).ok(), write(1, 1, "x").shows(), write(2, 1, "y").fails(api.EBADF), open(2, "/f", 0).gives(1), read(2, 1, 9).reads("hello"), read(1, 1, 2).takes("ty"))...)
}

// A child has the handlers, and is in one, if its parent is; nothing is pending for it.
func TestForkHandlers(t *testing.T) {
	play(t, begin(1).ok(), signal(1, 3, 40).ok(), signal(1, 4, toIgnore).ok(), kill(1, 1, 3).ok(), kill(1, 1, 5).ok(), fork(1).gives(2), next(2, at(9)).no(), saved(2).no(),
		kill(2, 2, 4).ok(), next(2, at(9)).no(), kill(2, 2, 3).ok(), next(2, at(9)).tells(3, 40), signal(2, 6, 60).ok(), fork(2).gives(3), saved(3).is(at(9)),
		kill(2, 3, 6).ok(), next(3, at(7)).no(), sigret(3).ok(), next(3, at(7)).tells(6, 60), next(1, at(8)).tells(3, 40), sigret(1).ok(), next(1, at(8)).tells(5, byDefault))
}

func TestWait(t *testing.T) {
	play(t, begin(1).ok(), wait(1).fails(api.ECHILD), fork(1).gives(2), wait(1).waits(), wait(2).fails(api.ECHILD), fork(1).gives(3), fork(1).gives(4), wait(1).waits(),
		exit(4, 40).ok(), exit(3, 30).ok(), wait(1).told(3, 30), wait(1).told(4, 40), wait(1).waits(), fork(2).gives(3), exit(3, 1).ok(), wait(1).waits(),
		exit(2, 2).ok(), wait(1).told(2, 2), wait(1).fails(api.ECHILD))
	play(t, append(begun(7), wait(1).waits(), killed(8, 8).ok(), killed(2, 139).ok(), killed(5, 128+9).ok(), wait(1).told(2, 139), wait(1).told(5, 137), wait(1).told(8, 8), wait(1).waits())...)
}

func TestExecErrors(t *testing.T) {
	l := steps(begin(1).ok(), signal(1, 3, 40).ok(), signal(1, 4, toIgnore).ok(), kill(1, 1, 3).ok(), next(1, at(5)).tells(3, 40))
	for path, e := range map[string]api.Errno{
		"": api.ENOENT, "/no": api.ENOENT, "/d/no": api.ENOENT, "/no/no": api.ENOENT, "/f/x": api.ENOTDIR, "/prog/x": api.ENOTDIR, "/123456789": api.ENAMETOOLONG, strings.Repeat("/", 33): api.ENAMETOOLONG,
		"/d\x00": api.EINVAL, "/": api.EISDIR, "/d": api.EISDIR, "d/e": api.EISDIR, strings.Repeat("/", 32): api.EISDIR,
		"/f": api.ENOEXEC, "/d/g": api.ENOEXEC, "/none": api.ENOEXEC, "/dead": api.ENOEXEC, "/long": api.ENOEXEC,
	} {
		l = append(l, exec(1, path).fails(e), saved(1).is(at(5)))
	}
	play(t, l...)
}

// The longest program, and those that are written ahead.
func TestExec(t *testing.T) {
	longest := strings.Repeat("\x00\x05\x03", 63) + program
	play(t, begin(1).ok(), exec(1, "/prog").runs(program), exec(1, "//prog//").runs(program), exec(1, "prog").runs(program),
		open(1, "/new", 1).gives(3), exec(1, "/new").fails(api.ENOEXEC), write(1, 3, longest).gives(192), exec(1, "/new").runs(longest), exec(1, "/new").runs(longest),
		open(1, "/new", 2).gives(4), exec(1, "/new").fails(api.ENOEXEC), write(1, 4, "\x00\x07\x17\x01\x03").gives(5), exec(1, "/new").fails(api.ENOEXEC), // Push 7, exit, Drop: it ends
		write(1, 4, "\x15\x00\x00").gives(3), exec(1, "/new").runs("\x00\x07\x17\x01\x03\x15\x00\x00"), unlink(1, "/new").ok(), exec(1, "/new").fails(api.ENOENT),
		link(1, "/prog", "/d/p").ok(), exec(1, "/d/p").runs(program))
}

// Handlers that are places are default behind it, those to ignore stay; what is pending stays, as do the descriptors.
func TestExecHandlers(t *testing.T) {
	l := steps(begin(1).ok(), open(1, "/f", 0).gives(3), read(1, 3, 2).reads("he"), fork(1).gives(2))
	for sig := uint64(1); sig <= lastSig; sig++ {
		if sig != 9 {
			l = append(l, signal(1, sig, []uint64{40, toIgnore, byDefault}[sig%3]).ok(), signal(2, sig, 50).ok())
		}
	}
	l = append(l, kill(1, 1, 3).ok(), next(1, at(5)).tells(3, 40), kill(1, 1, 6).ok(), exec(1, "/prog").runs(program), saved(1).no(), sigret(1).fails(api.EINVAL),
		next(1, at(6)).tells(6, byDefault), saved(1).no(), read(1, 3, 9).reads("llo"))
	for sig := uint64(1); sig <= lastSig; sig++ {
		l = append(l, kill(1, 1, sig).ok())
		if sig != 9 && sig%3 == 1 {
			l = append(l, next(1, at(7)).no())
		} else {
			l = append(l, next(1, at(7)).tells(int(sig), byDefault))
		}
		if sig != 9 { // another one's are its own
			l = append(l, kill(1, 2, sig).ok(), next(2, at(8)).tells(int(sig), 50), sigret(2).ok())
		}
	}
	play(t, append(l, saved(1).no())...)
}

func TestKillErrors(t *testing.T) {
	l := append(begun(2), exit(3, 0).ok())
	for _, pid := range append(farWords(), 0, 3, 4, 8, 9, 10) {
		if pid == 1 || pid == 2 {
			continue
		}
		l = append(l, kill(1, pid, 10).fails(api.ESRCH), kill(1, pid, 0).fails(api.ESRCH), kill(2, pid, 16).fails(api.ESRCH), kill(1, pid, math.MaxUint64).fails(api.ESRCH))
	}
	for _, sig := range append(farWords(), 16, 17, 31, 32) {
		l = append(l, kill(1, 1, sig).fails(api.EINVAL), kill(1, 2, sig).fails(api.EINVAL))
	}
	play(t, append(l, next(1, at(1)).no(), next(2, at(2)).no())...)
}

// Signal 0 asks whether it lives, and sends nothing.
func TestKill(t *testing.T) {
	for sig := uint64(1); sig <= lastSig; sig++ {
		play(t, append(begun(2), kill(1, 2, 0).ok(), next(2, at(1)).no(), kill(1, 2, sig).ok(), kill(3, 2, sig).ok(), kill(2, 2, 0).ok(), next(1, at(1)).no(), next(3, at(1)).no(),
			next(2, at(1)).tells(int(sig), byDefault), next(2, at(1)).no(), kill(2, 1, sig).ok(), next(1, at(1)).tells(int(sig), byDefault), live(2).yes())...)
	}
	w := play(t, append(begun(1), kill(1, 2, 3).ok())...)
	was := w.snap()
	for _, c := range []call{kill(1, 2, 0), kill(2, 2, 0), kill(2, 1, 0), kill(1, 2, 3)} {
		c.on(w)
		if !slices.Equal(w.snap(), was) {
			t.Errorf("%v changes something", c)
		}
	}
}

func TestSignalErrors(t *testing.T) {
	l := begun(1)
	for _, sig := range append(farWords(), 0, 9, 16) {
		for _, h := range []uint64{0, 40, toIgnore, byDefault} {
			l = append(l, signal(1, sig, h).fails(api.EINVAL), signal(2, sig, h).fails(api.EINVAL))
		}
	}
	play(t, l...)
}

func TestSignalSets(t *testing.T) {
	for sig := uint64(1); sig <= lastSig; sig++ {
		if sig == 9 {
			continue
		}
		play(t, append(begun(1), signal(2, sig, 0).ok(), kill(1, 2, sig).ok(), kill(1, 1, sig).ok(), next(2, at(3, 4)).tells(int(sig), 0), saved(2).is(at(3, 4)), next(1, at(3, 4)).tells(int(sig), byDefault),
			signal(2, sig, toIgnore).ok(), sigret(2).ok(), kill(1, 2, sig).ok(), next(2, at(5)).no(), signal(2, sig, byDefault).ok(), kill(1, 2, sig).ok(), next(2, at(5)).tells(int(sig), byDefault), saved(2).no())...)
	}
}

func TestSigret(t *testing.T) {
	play(t, append(begun(1), sigret(1).fails(api.EINVAL), signal(1, 3, 40).ok(), kill(1, 1, 3).ok(), sigret(1).fails(api.EINVAL), next(1, at(5, 6)).tells(3, 40),
		sigret(2).fails(api.EINVAL), sigret(1).ok(), saved(1).no(), sigret(1).fails(api.EINVAL))...)
}

// R2: of several errors it is the one that is named first.
func TestWhoDoesNotLiveIsToldFirst(t *testing.T) {
	play(t, append(begun(1), exit(2, 0).ok(), wait(2).fails(api.ESRCH), open(2, "", 99).fails(api.ESRCH), read(2, 99, 999).fails(api.ESRCH), kill(2, 99, 99).fails(api.ESRCH),
		signal(2, 99, 0).fails(api.ESRCH), sigret(2).fails(api.ESRCH), does(2, api.Call{N: 99}).fails(api.ESRCH), exec(9, "/no").fails(api.ESRCH))...)
}
