package unix_test

import (
	"strings"
	"testing"

	"janus/api"
)

// wrongPaths is paths that lead nowhere, and why.
func wrongPaths() map[string]api.Errno {
	return map[string]api.Errno{
		"": api.ENOENT, "/no/no": api.ENOENT, "/d/no/x": api.ENOENT, "/f/x": api.ENOTDIR, "/d/g/x": api.ENOTDIR, "/f/x/y": api.ENOTDIR, "/123456789": api.ENAMETOOLONG, "/no/123456789": api.ENAMETOOLONG,
		strings.Repeat("/", 33): api.ENAMETOOLONG, "/" + strings.Repeat("a/", 16): api.ENAMETOOLONG, "/a\x00": api.EINVAL, "/no/\x00": api.EINVAL, "/": api.EISDIR, "//": api.EISDIR, "/d": api.EISDIR, "/d/e/": api.EISDIR,
	}
}

func TestOpenErrors(t *testing.T) {
	l := steps(begin(1).ok())
	for flags := range uint64(8) {
		for path, e := range wrongPaths() {
			l = append(l, open(1, path, flags).fails(e))
		}
		if flags&api.OpenCreate == 0 {
			l = append(l, open(1, "/no", flags).fails(api.ENOENT), open(1, "/d/no", flags).fails(api.ENOENT))
		}
	}
	play(t, l...)
}

func TestOpenFlagsAbove7(t *testing.T) {
	l := steps(begin(1).ok())
	for _, flags := range append(farWords(), 8, 9, 15, 16, 1<<3, 1<<63) {
		l = append(l, open(1, "/f", flags).fails(api.EINVAL), open(1, "/no", flags).fails(api.EINVAL), open(1, "", flags).fails(api.EINVAL), open(1, "/d", flags).fails(api.EINVAL))
	}
	play(t, append(l, open(1, "/f", 7).gives(3))...)
}

// Of a file that is there: OpenCreate has it as it is, OpenTrunc empties it, and OpenAppend writes at its end.
func TestOpenOfAFile(t *testing.T) {
	for flags := range uint64(8) {
		text, behind := "hello", "XY"+"llo"
		if flags&api.OpenTrunc != 0 {
			text, behind = "", "XY"
		}
		if flags&api.OpenAppend != 0 {
			behind = text + "XY"
		}
		w := play(t, begin(1).ok(), open(1, "/f", flags).gives(3), read(1, 3, 0).gives(0))
		wantInode(t, w, fInode, 1, text)
		write(1, 3, "XY").on(w)
		wantInode(t, w, fInode, 1, behind)
		play(t, begin(1).ok(), open(1, "/f", flags).gives(3), read(1, 3, 9).reads(text))
	}
}

func TestOpenOfNoFile(t *testing.T) {
	for flags := uint64(1); flags < 8; flags += 2 {
		for _, path := range []string{"/new", "/d/new", "new", "//d//e//new//"} {
			w := play(t, begin(1).ok(), open(1, path, flags).gives(3), read(1, 3, 9).reads(""), open(1, path, 0).gives(4), write(1, 3, "abc").gives(3), read(1, 4, 9).reads("abc"))
			wantInode(t, w, freeInode, 1, "abc")
		}
	}
	for flags := uint64(0); flags < 8; flags += 2 {
		play(t, begin(1).ok(), open(1, "/new", flags).fails(api.ENOENT), open(1, "/d/new", flags).fails(api.ENOENT))
	}
}

// Each descriptor that is opened is at a place of its own.
func TestOpenTwice(t *testing.T) {
	play(t, begin(1).ok(), open(1, "/f", 0).gives(3), read(1, 3, 2).reads("he"), open(1, "/f", 4).gives(4), read(1, 4, 2).reads("he"), write(1, 4, "!").gives(1), read(1, 3, 9).reads("llo!"), read(1, 4, 9).reads(""),
		open(1, "/f", 0).gives(5), read(1, 5, 9).reads("hello!"))
}

// What was emptied by one reads as nothing by the others, whose places stay.
func TestOpenTruncOfAnOpenFile(t *testing.T) {
	w := play(t, begin(1).ok(), open(1, "/f", 0).gives(3), read(1, 3, 4).reads("hell"), open(1, "/f", 2).gives(4), read(1, 3, 9).reads(""), write(1, 3, "o").gives(1), read(1, 4, 9).reads("\x00\x00\x00\x00o"))
	wantInode(t, w, fInode, 1, "\x00\x00\x00\x00o")
}

func TestOpenWithoutADescriptor(t *testing.T) {
	full := steps(begin(1).ok(), open(1, "/f", 0).gives(3), dup(1, 0).gives(4), dup(1, 0).gives(5))
	for flags := range uint64(8) {
		l := append(full, open(1, "/f", flags).fails(api.EMFILE), open(1, "/d/g", flags).fails(api.EMFILE), open(1, "/d", flags).fails(api.EISDIR), open(1, "/no/x", flags).fails(api.ENOENT), open(1, "/f/x", flags).fails(api.ENOTDIR), open(1, "/f", flags+8).fails(api.EINVAL))
		if flags&api.OpenCreate != 0 {
			l = append(l, open(1, "/new", flags).fails(api.EMFILE))
		} else {
			l = append(l, open(1, "/new", flags).fails(api.ENOENT))
		}
		play(t, append(l, closes(1, 4).ok(), open(1, "/f", 0).gives(4), open(1, "/f", 0).fails(api.EMFILE))...)
	}
}

// crowd is all 8, with all 32 open files but so many, and free descriptors all over: 3 consoles, and what is opened beside.
func crowd(but int) []step {
	l := begun(7)
	left := api.MaxOpen - 3 - but
	for pid := 1; pid <= lastPid; pid++ {
		for fd := 3; fd <= 4+pid/7 && left > 0; fd++ {
			l = append(l, open(pid, "/d/g", 0).gives(fd))
			left--
		}
	}
	for pid := 1; left > 0; pid++ {
		for fd := uint64(0); fd < 3 && left > 0; fd++ {
			l = append(l, closes(pid, fd).ok(), open(pid, "/d/g", 0).gives(int(fd)))
			left--
		}
	}
	return l
}

func TestOpenWithoutAnOpenFile(t *testing.T) {
	for flags := range uint64(8) {
		l := append(crowd(0), open(1, "/f", flags).fails(api.EMFILE), open(1, "/d", flags).fails(api.EISDIR), open(1, "/no/x", flags).fails(api.ENOENT), open(1, "/f", flags|8).fails(api.EINVAL))
		if flags&api.OpenCreate != 0 {
			l = append(l, open(1, "/new", flags).fails(api.EMFILE))
		} else {
			l = append(l, open(1, "/new", flags).fails(api.ENOENT))
		}
		play(t, append(l, dup(1, 3).gives(5), closes(1, 5).ok(), open(1, "/f", 0).fails(api.EMFILE), closes(1, 3).ok(), open(1, "/f", 0).gives(3), open(1, "/f", 0).fails(api.EMFILE))...)
	}
}

// The one block of data is the root's, which has room for three names in it.
func TestOpenWithoutRoomOnTheDisk(t *testing.T) {
	playOn(t, made(t, 13, nil), made(t, 13, nil), begin(1).ok(), open(1, "/a", 1).gives(3), write(1, 3, "x").fails(api.ENOSPC), mkdir(1, "/d").ok(), open(1, "/d/new", 1).fails(api.ENOSPC),
		open(1, "/b", 7).gives(4), open(1, "/c", 1).fails(api.ENOSPC), open(1, "/c", 7).fails(api.ENOSPC), open(1, "/a", 1).gives(5), open(1, "/c", 1).fails(api.EMFILE))
}

// All inodes are in use: one more can't be made, and what is there can be opened.
func TestOpenWithoutAnInode(t *testing.T) {
	l := steps(begin(1).ok())
	for i := freeInode; i < api.MaxInodes; i++ {
		path := []string{"/d/", "/d/e/"}[i%2] + string(rune('A'+i))
		l = append(l, open(1, path, 1).gives(3), closes(1, 3).ok())
	}
	playOn(t, made(t, 200, house()), made(t, 200, house()), append(l, open(1, "/d/new", 1).fails(api.ENOSPC), open(1, "/new", 7).fails(api.ENOSPC), open(1, "/f", 1).gives(3), unlink(1, "/f").ok(), open(1, "/new", 1).fails(api.ENOSPC), closes(1, 3).ok(), open(1, "/new", 1).gives(3))...)
}

// A name that is gone may be made anew, while the old file is open.
func TestOpenBehindUnlink(t *testing.T) {
	w := play(t, begin(1).ok(), open(1, "/f", 0).gives(3), unlink(1, "/f").ok(), open(1, "/f", 0).fails(api.ENOENT), open(1, "/f", 1).gives(4), write(1, 4, "new").gives(3), read(1, 3, 9).reads("hello"))
	wantInode(t, w, fInode, 0, "hello")
	wantInode(t, w, freeInode, 1, "new")
	closes(1, 3).on(w)
	wantFreed(t, w, fInode)
}
