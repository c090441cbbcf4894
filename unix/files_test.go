package unix_test

import (
	"math"
	"slices"
	"strings"
	"testing"

	"janus/api"
)

func TestCloseErrors(t *testing.T) {
	l := steps(begin(1).ok())
	for _, fd := range append(noFds(), 3, 4, 5) {
		l = append(l, closes(1, fd).fails(api.EBADF), dup(1, fd).fails(api.EBADF), read(1, fd, 3).fails(api.EBADF), write(1, fd, "x").fails(api.EBADF), write(1, fd, "").fails(api.EBADF), read(1, fd, 0).fails(api.EBADF), read(1, fd, 999).fails(api.EBADF))
	}
	play(t, append(l, closes(1, 1).ok(), closes(1, 1).fails(api.EBADF), write(1, 1, "x").fails(api.EBADF), read(1, 1, 1).fails(api.EBADF), dup(1, 1).fails(api.EBADF), write(1, 0, "x").shows())...)
}

// A file without a name is freed with its last descriptor, and not ahead of that.
func TestCloseOfTheLastOne(t *testing.T) {
	w := play(t, begin(1).ok(), open(1, "/f", 0).gives(3), dup(1, 3).gives(4), open(1, "/f", 0).gives(5), fork(1).gives(2), unlink(1, "/f").ok())
	for pid := 1; pid <= 2; pid++ {
		for fd := uint64(3); fd <= 5; fd++ {
			wantInode(t, w, fInode, 0, "hello")
			if got := closes(pid, fd).on(w); !got.same(answer{}) {
				t.Fatalf("Close answers %v", got)
			}
			wantSound(t, closes(pid, fd), w)
		}
	}
	wantFreed(t, w, fInode)
}

func TestCloseOfAFileWithAName(t *testing.T) {
	w := play(t, begin(1).ok(), open(1, "/f", 0).gives(3), link(1, "/f", "/also").ok(), unlink(1, "/f").ok(), closes(1, 3).ok(), open(1, "/also", 0).gives(3), read(1, 3, 9).reads("hello"), closes(1, 3).ok())
	wantInode(t, w, fInode, 1, "hello")
}

// One of several that none names any more is freed, the others are not.
func TestCloseOfOneOfSeveral(t *testing.T) {
	w := play(t, begin(1).ok(), open(1, "/f", 0).gives(3), open(1, "/d/g", 0).gives(4), unlink(1, "/f").ok(), unlink(1, "/d/g").ok(), closes(1, 4).ok())
	wantFreed(t, w, gInode)
	wantInode(t, w, fInode, 0, "hello")
}

func TestDup(t *testing.T) {
	play(t, begin(1).ok(), open(1, "/f", 0).gives(3), dup(1, 3).gives(4), read(1, 4, 2).reads("he"), read(1, 3, 2).reads("ll"), closes(1, 3).ok(), read(1, 4, 2).reads("o"), dup(1, 4).gives(3), dup(1, 0).gives(5), dup(1, 0).fails(api.EMFILE),
		dup(1, 4).fails(api.EMFILE), dup(1, 6).fails(api.EBADF), write(1, 5, "x").shows(), closes(1, 0).ok(), dup(1, 4).gives(0), read(1, 0, 1).reads(""))
	play(t, append(crowd(0), dup(1, 3).gives(5))...) // no file is opened
	play(t, begin(1).ok(), pipe(1).two(3, 4), dup(1, 4).gives(5), closes(1, 4).ok(), read(1, 3, 1).waits(), write(1, 5, "a").gives(1), closes(1, 5).ok(), read(1, 3, 3).reads("a"), read(1, 3, 3).reads(""))
}

func TestReadErrors(t *testing.T) {
	l := steps(begin(1).ok(), open(1, "/f", 0).gives(3), pipe(1).two(4, 5), write(1, 5, "abc").gives(3))
	for _, n := range append(farWords(), 129, 130, 192, 1000) {
		if n <= 128 {
			continue
		}
		for fd := range uint64(6) {
			l = append(l, read(1, fd, n).fails(api.EINVAL))
		}
		l = append(l, read(1, 6, n).fails(api.EBADF), read(1, math.MaxUint64, n).fails(api.EBADF))
	}
	for _, n := range []uint64{0, 1, 127, 128} {
		l = append(l, read(1, 5, n).fails(api.EBADF))
	}
	play(t, append(l, read(1, 3, 128).reads("hello"), read(1, 4, 128).reads("abc"))...)
}

func TestReadOfTheConsole(t *testing.T) {
	play(t, begin(1).ok(), read(1, 0, 0).takes(""), read(1, 0, 5).takes("typed"), read(1, 2, 1).takes(" "), read(1, 1, 128).takes(typed[6:]), read(1, 0, 128).takes(""), read(1, 0, 1).takes(""), read(1, 0, 0).takes(""))
	for _, n := range []int{0, 1, 127, 128, 129, 400} {
		w := fresh(t)
		w.in = longText + longText + longText
		w.in = w.in[:n]
		begin(1).on(w)
		for want := w.in; ; {
			got := read(1, 0, 128).on(w)
			k := min(len(want), 128)
			if !got.same(read(1, 0, 128).takes(want[:k]).want) {
				t.Fatalf("of %d left a read answers %v", len(want), got)
			}
			if want = want[k:]; k == 0 {
				break
			}
		}
	}
}

// A place on the console is none: it has no Off, and its bytes may be any.
func TestConsoleOfAnyBytes(t *testing.T) {
	all := make([]byte, 256)
	for i := range all {
		all[i] = byte(i)
	}
	w := fresh(t)
	w.in = string(all)
	begin(1).on(w)
	for _, l := range [][]byte{all[:128], all[128:]} {
		if got := read(1, 0, 128).on(w); got.ret.Data != string(l) || got.ret.N != 128 || got.taken != 128 {
			t.Errorf("a read answers %v", got)
		}
		write(1, 1, string(l)).on(w)
	}
	if w.out != string(all) {
		t.Errorf("the console shows %q", w.out)
	}
	if words := cut(t, w.c.Encode())[0][:13]; !slices.Equal(words, []uint64{3, 1, 0, 0, 0, 1, 0, 0, 0, 1, 0, 0, 0}) {
		t.Errorf("the consoles' words are %v", words)
	}
}

func TestWriteToTheConsole(t *testing.T) {
	l := steps(begin(1).ok())
	for _, n := range []int{0, 1, 8, 9, 127, 128, 129, 192, 193, 1000, 100000} {
		text := strings.Repeat("0123456789", n/10+1)[:n]
		l = append(l, write(1, 0, text).shows(), write(1, 1, text).shows(), write(1, 2, text).shows())
	}
	play(t, append(l, closes(1, 0).ok(), dup(1, 1).gives(0), write(1, 0, "x").shows(), read(1, 0, 2).takes("ty"))...)
}

func TestReadOfAFile(t *testing.T) {
	play(t, begin(1).ok(), open(1, "/f", 0).gives(3), read(1, 3, 0).gives(0), read(1, 3, 1).reads("h"), read(1, 3, 3).reads("ell"), read(1, 3, 0).gives(0), read(1, 3, 2).reads("o"), read(1, 3, 2).reads(""), read(1, 3, 0).gives(0), read(1, 3, 128).reads(""),
		open(1, "/none", 0).gives(4), read(1, 4, 128).reads(""), open(1, "/long", 0).gives(5), read(1, 5, 128).reads(longText[:128]), read(1, 5, 128).reads(longText[128:]), read(1, 5, 128).reads(""))
	play(t, begin(1).ok(), open(1, "/long", 0).gives(3), read(1, 3, 127).reads(longText[:127]), read(1, 3, 64).reads(longText[127:191]), read(1, 3, 2).reads(longText[191:]))
}

// Off is where a read or a write ended, whichever comes next.
func TestReadAndWriteByTurns(t *testing.T) {
	play(t, begin(1).ok(), open(1, "/f", 0).gives(3), open(1, "/f", 0).gives(4), read(1, 3, 1).reads("h"), write(1, 3, "EL").gives(2), read(1, 3, 1).reads("l"), write(1, 3, "O, you").gives(6), read(1, 3, 9).reads(""),
		read(1, 4, 128).reads("hELlO, you"), write(1, 4, "!").gives(1), read(1, 3, 9).reads("!"), read(1, 4, 9).reads(""))
}

func TestWriteWithAppend(t *testing.T) {
	w := play(t, begin(1).ok(), open(1, "/f", 4).gives(3), read(1, 3, 2).reads("he"), write(1, 3, "").gives(0), read(1, 3, 1).reads("l"), write(1, 3, "!").gives(1), read(1, 3, 9).reads(""), open(1, "/f", 0).gives(4), write(1, 4, "J").gives(1),
		write(1, 3, "?").gives(1), read(1, 4, 9).reads("ello!?"), open(1, "/f", 6).gives(5), write(1, 5, "ab").gives(2), write(1, 3, "cd").gives(2), write(1, 5, "ef").gives(2), read(1, 5, 1).reads(""))
	wantInode(t, w, fInode, 1, "abcdef")
	play(t, append(begun(1), open(1, "/f", 4).gives(3), fork(1).gives(3), write(3, 3, "a").gives(1), write(1, 3, "b").gives(1), exit(3, 0).ok(), open(2, "/f", 0).gives(3), read(2, 3, 9).reads("helloab"))...)
}

func TestWriteUpToAFilesEnd(t *testing.T) {
	x := strings.Repeat("x", 200)
	for _, flags := range []uint64{0, 4} {
		w := play(t, begin(1).ok(), open(1, "/none", flags).gives(3), write(1, 3, x[:193]).fails(api.EFBIG), write(1, 3, x[:128]).gives(128), write(1, 3, x[:129]).fails(api.EFBIG), write(1, 3, x[:65]).fails(api.EFBIG), write(1, 3, x[:64]).gives(64),
			write(1, 3, "x").fails(api.EFBIG), write(1, 3, "").gives(0), read(1, 3, 9).reads(""))
		wantInode(t, w, noneInode, 1, x[:192])
		w = play(t, begin(1).ok(), open(1, "/none", flags).gives(3), write(1, 3, x[:192]).gives(192), write(1, 3, "x").fails(api.EFBIG))
		wantInode(t, w, noneInode, 1, x[:192])
	}
	play(t, begin(1).ok(), open(1, "/long", 0).gives(3), read(1, 3, 128).reads(longText[:128]), write(1, 3, x[:65]).fails(api.EFBIG), write(1, 3, x[:64]).gives(64), write(1, 3, x[:1]).fails(api.EFBIG),
		open(1, "/long", 4).gives(4), write(1, 4, "x").fails(api.EFBIG), read(1, 4, 3).reads(longText[:3]))
}

// What another one cut is filled with 0s up to where the write begins.
func TestWritePastAFilesEnd(t *testing.T) {
	play(t, begin(1).ok(), open(1, "/long", 0).gives(3), read(1, 3, 128).reads(longText[:128]), open(1, "/long", 2).gives(4), read(1, 3, 128).reads(""), write(1, 4, "ab").gives(2), write(1, 3, "cd").gives(2),
		read(1, 4, 128).reads(strings.Repeat("\x00", 126)+"cd"), read(1, 4, 9).reads(""))
}

func TestWriteWithoutBlocks(t *testing.T) {
	w := made(t, 15, []api.Node{{Path: "/a", Data: "a"}})
	x := strings.Repeat("x", 100)
	playOn(t, w, made(t, 15, []api.Node{{Path: "/a", Data: "a"}}), begin(1).ok(), open(1, "/a", 0).gives(3), open(1, "/b", 1).gives(4), write(1, 3, x[:65]).fails(api.ENOSPC), write(1, 3, x[:64]).gives(64), read(1, 3, 9).reads(""),
		write(1, 4, "x").fails(api.ENOSPC), write(1, 4, "").gives(0), write(1, 3, "x").fails(api.ENOSPC), closes(1, 3).ok(), unlink(1, "/a").ok(), write(1, 4, x[:64]).gives(64))
}

// A file whose name is gone is read and written as long as it is open.
func TestFileWithoutAName(t *testing.T) {
	w := play(t, begin(1).ok(), open(1, "/f", 0).gives(3), unlink(1, "/f").ok(), write(1, 3, "J").gives(1), fork(1).gives(2), closes(1, 3).ok(), read(2, 3, 9).reads("ello"), write(2, 3, longText[:100]).gives(100))
	wantInode(t, w, fInode, 0, "Jello"+longText[:100])
	exit(2, 0).on(w)
	wantFreed(t, w, fInode)
}

// Two processes add to one file by turns.
func TestFileOfTwo(t *testing.T) {
	w := play(t, begin(1).ok(), open(1, "/new", 5).gives(3), fork(1).gives(2), write(1, 3, "a").gives(1), write(2, 3, "b").gives(1), write(2, 3, "c").gives(1), write(1, 3, "d").gives(1))
	wantInode(t, w, freeInode, 1, "abcd")
}
