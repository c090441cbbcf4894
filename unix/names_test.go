package unix_test

import (
	"slices"
	"testing"

	"janus/api"
)

func TestUnlink(t *testing.T) {
	l := steps(begin(1).ok())
	for path, e := range wrongPaths() {
		l = append(l, unlink(1, path).fails(e))
	}
	w := play(t, append(l, unlink(1, "/no").fails(api.ENOENT), unlink(1, "/f").ok(), unlink(1, "/f").fails(api.ENOENT), unlink(1, "d/g").ok(), open(1, "/d/g", 0).fails(api.ENOENT))...)
	wantFreed(t, w, fInode)
	wantFreed(t, w, gInode)
}

// An open file is there till it is closed, whoever has it open, and as whatever of several.
func TestUnlinkOfAnOpenFile(t *testing.T) {
	for _, flags := range []uint64{0, 1, 4, 5} {
		w := play(t, append(begun(2), open(3, "/d/g", flags).gives(3), open(2, "/f", flags).gives(3), unlink(1, "/f").ok(), unlink(1, "/d/g").ok(), open(1, "/f", 0).fails(api.ENOENT), read(2, 3, 9).reads("hello"), read(3, 3, 9).reads("inner"))...)
		wantInode(t, w, fInode, 0, "hello")
		closes(2, 3).on(w)
		wantFreed(t, w, fInode)
		wantInode(t, w, gInode, 0, "inner")
	}
}

func TestMkdir(t *testing.T) {
	l := steps(begin(1).ok())
	for path, e := range wrongPaths() {
		switch {
		case e == api.EISDIR && path[1:] != "" && path != "//":
			l = append(l, mkdir(1, path).fails(api.EEXIST))
		case e == api.EISDIR:
			l = append(l, mkdir(1, path).fails(api.EINVAL))
		default:
			l = append(l, mkdir(1, path).fails(e))
		}
	}
	play(t, append(l, mkdir(1, "/f").fails(api.EEXIST), mkdir(1, "/new").ok(), mkdir(1, "/new").fails(api.EEXIST), mkdir(1, "new/er").ok(), open(1, "/new/er", 1).fails(api.EISDIR), open(1, "/new/er/x", 1).gives(3), exec(1, "/new").fails(api.EISDIR))...)
}

func TestLink(t *testing.T) {
	l := steps(begin(1).ok())
	for path, e := range wrongPaths() {
		l = append(l, link(1, path, "/new").fails(e), link(1, path, "").fails(e))
	}
	play(t, append(l, link(1, "/f", "").fails(api.ENOENT), link(1, "/f", "/").fails(api.EINVAL), link(1, "/f", "/no/x").fails(api.ENOENT), link(1, "/f", "/f/x").fails(api.ENOTDIR), link(1, "/f", "/d").fails(api.EEXIST), link(1, "/f", "/f").fails(api.EEXIST),
		link(1, "/f", "/d/f").ok(), link(1, "/f", "/d/f").fails(api.EEXIST), open(1, "/d/f", 4).gives(3), write(1, 3, "!").gives(1), open(1, "/f", 0).gives(4), read(1, 4, 9).reads("hello!"), unlink(1, "/f").ok(), unlink(1, "/d/f").ok(), read(1, 4, 9).reads(""), write(1, 4, "?").gives(1))...)
}

// What a file is renamed to is lost, as by Unlink: it is there as long as it is open.
func TestRenameToAnOpenFile(t *testing.T) {
	w := play(t, append(begun(1), open(2, "/d/g", 0).gives(3), rename(1, "/f", "/d/g").ok(), read(2, 3, 9).reads("inner"), open(1, "/d/g", 0).gives(3), read(1, 3, 9).reads("hello"), open(1, "/f", 0).fails(api.ENOENT))...)
	wantInode(t, w, gInode, 0, "inner")
	closes(2, 3).on(w)
	wantFreed(t, w, gInode)
	wantInode(t, w, fInode, 1, "hello")
	w = play(t, begin(1).ok(), rename(1, "/f", "/d/g").ok())
	wantFreed(t, w, gInode)
}

func TestRename(t *testing.T) {
	l := steps(begin(1).ok())
	for path, e := range wrongPaths() {
		switch {
		case path == "/" || path == "//":
			l = append(l, rename(1, path, "/new").fails(api.EINVAL), rename(1, "/f", path).fails(api.EINVAL))
		case e == api.EISDIR:
			l = append(l, rename(1, path, "/f").fails(api.EEXIST), rename(1, "/f", path).fails(api.EEXIST))
		default:
			l = append(l, rename(1, path, "/new").fails(e), rename(1, "/f", path).fails(e), rename(1, path, "").fails(e))
		}
	}
	play(t, append(l, rename(1, "/no", "/new").fails(api.ENOENT), rename(1, "/d", "/d/e/x").fails(api.EINVAL), rename(1, "/f", "/f").ok(), rename(1, "/f", "/d/e/f").ok(), open(1, "/f", 0).fails(api.ENOENT), open(1, "/d/e/f", 0).gives(3), rename(1, "/d/e", "/e").ok(),
		open(1, "/e/f", 0).gives(4), read(1, 4, 9).reads("hello"), read(1, 3, 2).reads("he"))...)
}

// An open file that is renamed is the same one.
func TestRenameOfAnOpenFile(t *testing.T) {
	w := play(t, begin(1).ok(), open(1, "/f", 0).gives(3), rename(1, "/f", "/d/x").ok(), write(1, 3, "J").gives(1), closes(1, 3).ok(), open(1, "/d/x", 0).gives(3), read(1, 3, 9).reads("Jello"))
	wantInode(t, w, fInode, 1, "Jello")
}

// Names that are changed leave the core as it is.
func TestNamesLeaveTheCore(t *testing.T) {
	w := play(t, begin(1).ok(), open(1, "/f", 0).gives(3))
	was := w.c.Encode()
	for _, c := range []call{unlink(1, "/f"), mkdir(1, "/new"), link(1, "/d/g", "/f"), rename(1, "/d/g", "/g"), unlink(1, "/long"), rename(1, "/f", "/g")} {
		if got := c.on(w); !got.same(answer{}) || !slices.Equal(w.c.Encode(), was) {
			t.Errorf("%v answers %v", c, got)
		}
	}
}
