package unix_test

import (
	"testing"

	"janus/api"
)

func TestPipe(t *testing.T) {
	play(t, begin(1).ok(), pipe(1).two(3, 4), read(1, 3, 1).waits(), read(1, 3, 0).gives(0), write(1, 4, "").gives(0), read(1, 3, 1).waits(), write(1, 4, "abcd").gives(4), write(1, 4, "efghij").gives(4), write(1, 4, "x").waits(), write(1, 4, "").gives(0),
		read(1, 3, 0).gives(0), read(1, 3, 3).reads("abc"), write(1, 4, "ijklm").gives(3), write(1, 4, "l").waits(), read(1, 3, 128).reads("defghijk"), read(1, 3, 128).waits())
}

// The lower descriptor is the one that is read, wherever two are free.
func TestPipeWhereTwoAreFree(t *testing.T) {
	play(t, begin(1).ok(), closes(1, 0).ok(), pipe(1).two(0, 3), write(1, 3, "x").gives(1), read(1, 0, 9).reads("x"), write(1, 0, "x").fails(api.EBADF), read(1, 3, 9).fails(api.EBADF),
		pipe(1).two(4, 5), pipe(1).fails(api.EMFILE), closes(1, 1).ok(), closes(1, 4).ok(), pipe(1).two(1, 4))
}

func TestPipeWithTooFewDescriptors(t *testing.T) {
	play(t, begin(1).ok(), dup(1, 0).gives(3), dup(1, 0).gives(4), pipe(1).fails(api.EMFILE), dup(1, 0).gives(5), pipe(1).fails(api.EMFILE), closes(1, 2).ok(), pipe(1).fails(api.EMFILE), closes(1, 5).ok(), pipe(1).two(2, 5))
}

func TestPipeWithTooFewOpenFiles(t *testing.T) {
	play(t, append(crowd(0), closes(1, 2).ok(), pipe(1).fails(api.EMFILE))...)
	play(t, append(crowd(1), pipe(8).fails(api.EMFILE), pipe(1).fails(api.EMFILE), open(1, "/f", 0).gives(5), closes(1, 5).ok(), closes(1, 3).ok(), pipe(1).two(3, 5), pipe(8).fails(api.EMFILE))...)
	play(t, append(crowd(2), closes(1, 2).ok(), pipe(1).two(2, 5))...)
}

// allPipes is 16 pipes, of two files each: all that may be open.
func allPipes() []step {
	l := begun(5)
	for pid := 1; pid <= 6; pid++ {
		for fd := range uint64(3) {
			l = append(l, closes(pid, fd).ok())
		}
	}
	for pid := 1; pid <= 6; pid++ {
		for k := 0; k < 3 && 3*pid+k < 19; k++ {
			l = append(l, pipe(pid).two(2*k, 2*k+1))
		}
	}
	return l
}

// 16 pipes have 32 open files, so that EMFILE is told ahead of EAGAIN, but where an end is open alone.
func TestPipeWithAllInUse(t *testing.T) {
	play(t, append(allPipes(), pipe(6).fails(api.EMFILE), pipe(1).fails(api.EMFILE), closes(6, 0).ok(), closes(1, 0).ok(), pipe(6).fails(api.EAGAIN), closes(2, 3).ok(), pipe(6).fails(api.EAGAIN),
		write(1, 1, "x").fails(api.EPIPE), closes(1, 1).ok(), pipe(6).two(0, 2), pipe(6).fails(api.EAGAIN), closes(2, 2).ok(), pipe(6).two(3, 4))...)
}

// A number is had anew when both its sides are gone, and begins empty.
func TestPipeNumbersAreHadAnew(t *testing.T) {
	play(t, begin(1).ok(), pipe(1).two(3, 4), write(1, 4, "old").gives(3), closes(1, 3).ok(), closes(1, 4).ok(), pipe(1).two(3, 4), read(1, 3, 9).waits(), closes(1, 4).ok(), closes(1, 3).ok(), pipe(1).two(3, 4), read(1, 3, 9).waits())
	w := play(t, append(begun(1), pipe(1).two(3, 4), pipe(2).two(3, 4), closes(1, 3).ok(), closes(1, 4).ok(), pipe(1).two(3, 4), write(1, 4, "one").gives(3), write(2, 4, "two").gives(3), read(2, 3, 9).reads("two"), read(1, 3, 9).reads("one"))...)
	if got := cut(t, w.c.Encode())[1]; got[0] != 1 || got[2] != 1 || got[4] != 0 {
		t.Errorf("the pipes' words are %v", got)
	}
}

func TestPipeWithoutWriters(t *testing.T) {
	play(t, begin(1).ok(), pipe(1).two(3, 4), write(1, 4, "abcde").gives(5), closes(1, 4).ok(), read(1, 3, 2).reads("ab"), read(1, 3, 9).reads("cde"), read(1, 3, 9).reads(""), read(1, 3, 0).gives(0), read(1, 3, 128).reads(""))
	play(t, begin(1).ok(), pipe(1).two(3, 4), fork(1).gives(2), closes(1, 4).ok(), read(1, 3, 9).waits(), write(2, 4, "ab").gives(2), closes(2, 4).ok(), read(1, 3, 9).reads("ab"), read(1, 3, 9).reads(""), read(2, 3, 9).reads(""))
	play(t, begin(1).ok(), pipe(1).two(3, 4), fork(1).gives(2), closes(1, 4).ok(), read(1, 3, 9).waits(), killed(2, 137).ok(), read(1, 3, 9).reads(""))
}

// EPIPE, and signal 13; without bytes it is neither, nor does it wait.
func TestPipeWithoutReaders(t *testing.T) {
	play(t, begin(1).ok(), pipe(1).two(3, 4), write(1, 4, "abc").gives(3), closes(1, 3).ok(), write(1, 4, "").gives(0), next(1, at(1)).no(), write(1, 4, "x").fails(api.EPIPE), next(1, at(1)).tells(13, byDefault), next(1, at(1)).no(),
		write(1, 4, "0123456789").fails(api.EPIPE), write(1, 4, "x").fails(api.EPIPE), next(1, at(1)).tells(13, byDefault), next(1, at(1)).no())
	play(t, begin(1).ok(), pipe(1).two(3, 4), write(1, 4, "12345678").gives(8), write(1, 4, "9").waits(), closes(1, 3).ok(), write(1, 4, "9").fails(api.EPIPE), signal(1, 13, toIgnore).ok(), next(1, at(1)).no(), write(1, 4, "x").fails(api.EPIPE), next(1, at(1)).no(),
		signal(1, 13, 40).ok(), write(1, 4, "x").fails(api.EPIPE), next(1, at(1)).tells(13, 40), write(1, 4, "x").fails(api.EPIPE), next(1, at(2)).no(), saved(1).is(at(1)))
}

// The signal is for who wrote, not for who has the pipe too.
func TestPipeSignalIsForTheWriter(t *testing.T) {
	play(t, begin(1).ok(), pipe(1).two(3, 4), fork(1).gives(2), closes(1, 3).ok(), write(2, 4, "ab").gives(2), closes(2, 3).ok(), write(2, 4, "x").fails(api.EPIPE), next(1, at(1)).no(), next(2, at(1)).tells(13, byDefault))
}

// A reader that comes first waits until the writer has written.
func TestPipeOfTwo(t *testing.T) {
	play(t, begin(1).ok(), pipe(1).two(3, 4), fork(1).gives(2), read(2, 3, 5).waits(), read(1, 3, 5).waits(), write(1, 4, "abc").gives(3), read(2, 3, 2).reads("ab"), read(1, 3, 5).reads("c"), read(2, 3, 5).waits())
}

// Pipes do not mix, whatever their numbers and the inodes' are.
func TestPipesAndFilesAreApart(t *testing.T) {
	play(t, append(begun(2), pipe(1).two(3, 4), pipe(2).two(3, 4), open(3, "/f", 0).gives(3), closes(1, 4).ok(), read(1, 3, 1).reads(""), read(2, 3, 1).waits(), closes(2, 3).ok(), write(2, 4, "x").fails(api.EPIPE), // pipe 1, as f's inode is
		unlink(3, "/f").ok(), closes(2, 4).ok(), read(3, 3, 9).reads("hello"), pipe(2).two(3, 4), closes(3, 3).ok(), read(2, 3, 1).waits())...)
}
