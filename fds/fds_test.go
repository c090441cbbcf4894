package fds_test

import (
	"math"
	"testing"

	"janus/api"
	"janus/fds"
)

func TestExamples(t *testing.T) {
	play(t,
		open(1, inode(4)).is(0),
		dup(1, 0).is(1),
		fork(1, 2).ok(),
		ends(1, 0, 4, 3),
	)
	play(t, append(opened(1, 10, 6), open(1, inode(16)).fails(api.EMFILE))...)
}

func TestNewHasNoDescriptors(t *testing.T) {
	for _, pid := range allPids() {
		play(t, left(pid).is(6))
		for fd := range api.MaxFd {
			play(t,
				get(pid, fd).fails(api.EBADF),
				dup(pid, fd).fails(api.EBADF),
				closes(pid, fd).fails(api.EBADF),
				seek(pid, fd, 0).fails(api.EBADF),
			)
		}
		play(t, gone(pid).told(), left(pid).is(6))
	}
	for kind := range 6 {
		play(t, ids(kind).are())
	}
}

func TestNewMakesThemApart(t *testing.T) {
	f, g := fresh(t), fresh(t)
	for _, c := range []call{open(1, inode(4)), dup(1, 0), fork(1, 2), seek(1, 0, 5)} {
		if a := c.on(f); a.e != api.OK {
			t.Fatalf("%v answers %v", c, a)
		}
	}
	wantSame(t, seek(1, 0, 5), g, fresh(t))
}

func TestOpenOfEachProcessAndDescriptor(t *testing.T) {
	for _, pid := range allPids() {
		var l []step
		for fd := range api.MaxFd {
			l = append(l,
				left(pid).is(6-fd),
				opens(pid, fd, 10+fd),
				looks(pid, fd, 10+fd, 1),
				left(pid).is(5-fd),
			)
		}
		l = append(l, open(pid, inode(20)).fails(api.EMFILE), left(pid).is(0))
		for fd := range api.MaxFd {
			l = append(l, looks(pid, fd, 10+fd, 1))
		}
		for _, other := range allPids() {
			if other != pid {
				l = append(l, left(other).is(6), namesNone(other, 0))
			}
		}
		play(t, l...)
	}
}

func TestOpenOfWhatIsNoProcess(t *testing.T) {
	for _, no := range noPids() {
		play(t,
			open(no, inode(4)).fails(api.EBADF),
			open(1, inode(4)).is(0),
			open(no, inode(5)).fails(api.EBADF),
			looks(1, 0, 4, 1),
			left(no).is(0),
		)
	}
}

// All that x tells is kept, but for its Refs, whatever these are.
func TestOpenTakesTheFileAsItIs(t *testing.T) {
	for _, n := range []int{0, 1, 2, 9, -1, 48, math.MinInt, math.MaxInt} {
		for _, x := range []api.File{
			{Kind: api.FileConsole},
			{Kind: api.FileInode, Id: 31, Off: 192, Append: true},
			{Kind: api.FileReader, Id: 15},
			{Kind: api.FileWriter, Id: 3, Off: 1 << 20},
			{Kind: api.FileInode, Id: math.MaxInt, Off: math.MaxInt},
			{Kind: api.FileInode, Id: -1, Off: math.MinInt, Append: true},
			{},
			{Kind: 5, Id: 7},
			{Kind: -1, Off: 2},
		} {
			play(t,
				open(3, refs(x, n)).is(0),
				get(3, 0).tells(one(x)),
				dup(3, 0).is(1),
				get(3, 0).tells(refs(x, 2)),
				closes(3, 0).tells(one(x)),
				closes(3, 1).tells(refs(x, 0)),
			)
		}
	}
}

// The same x twice is two files.
func TestOpenMakesANewFile(t *testing.T) {
	play(t,
		opens(1, 0, 4),
		opens(1, 1, 4),
		opens(2, 0, 4),
		seek(1, 1, 9).ok(),
		looks(1, 0, 4, 1),
		get(1, 1).tells(at(one(inode(4)), 9)),
		looks(2, 0, 4, 1),
		closes(1, 1).tells(at(inode(4), 9)),
		looks(1, 0, 4, 1),
		opens(1, 1, 4),
		looks(1, 1, 4, 1),
	)
}

func TestOpenTakesTheLowestThatIsFree(t *testing.T) {
	for _, pid := range allPids() {
		for fd := range api.MaxFd {
			play(t, joined(opened(pid, 10, 6), steps(
				ends(pid, fd, 10+fd, 0),
				left(pid).is(1),
				opens(pid, fd, 20),
				open(pid, inode(21)).fails(api.EMFILE),
				looks(pid, fd, 20, 1),
			))...)
			for higher := fd + 1; higher < api.MaxFd; higher++ {
				play(t, joined(opened(pid, 10, 6), steps(
					ends(pid, higher, 10+higher, 0),
					ends(pid, fd, 10+fd, 0),
					left(pid).is(2),
					opens(pid, fd, 20),
					opens(pid, higher, 21),
					open(pid, inode(22)).fails(api.EMFILE),
				))...)
			}
		}
	}
}

// Descriptors in use count even where they all name one file, and for the one process alone.
func TestOpenWhereAllDescriptorsAreInUse(t *testing.T) {
	for _, pid := range allPids() {
		other := pid%lastPid + 1
		play(t, joined(
			steps(opens(pid, 0, 4)),
			steps(dup(pid, 0).is(1), dup(pid, 0).is(2), dup(pid, 0).is(3), dup(pid, 0).is(4), dup(pid, 0).is(5)),
			steps(
				open(pid, inode(5)).fails(api.EMFILE),
				looks(pid, 5, 4, 6),
				opens(other, 0, 5),
				ends(pid, 5, 4, 5),
				opens(pid, 5, 6),
			),
		)...)
	}
}

func TestOpenWhereMaxOpenFilesAreOpen(t *testing.T) {
	for pid, fd := range map[int]int{6: 1, 7: 0, 8: 0} { // 1 to 5 have all their descriptors in use with 31, and 6 has one
		l := append(many(31), opens(pid, fd, 900))
		for _, full := range allPids() { // whether it has descriptors that are free or not
			l = append(l, open(full, inode(901)).fails(api.EMFILE))
		}
		l = append(l, left(pid).is(5-fd),
			ends(1, 3, 103, 0), // any one's place will do
			opens(pid, fd+1, 902),
			open(1, inode(903)).fails(api.EMFILE),
			namesNone(1, 3),
		)
		play(t, l...)
	}
}

func TestOnlyOpenFilesCount(t *testing.T) {
	play(t, append(many(31),
		dup(6, 0).is(1), // a second name is no second file
		fork(6, 7).ok(),
		fork(6, 8).ok(),
		opens(8, 2, 900),
		open(8, inode(901)).fails(api.EMFILE),
		looks(6, 0, 130, 6),
		ends(6, 0, 130, 5),
		ends(6, 1, 130, 4),
		open(8, inode(901)).fails(api.EMFILE), // five names are gone, but the file is not
		gone(7).told(refs(inode(130), 3), refs(inode(130), 2)),
		open(8, inode(901)).fails(api.EMFILE),
		ends(8, 0, 130, 1),
		open(8, inode(901)).fails(api.EMFILE),
		ends(8, 1, 130, 0), // now it is
		opens(8, 0, 901),
		open(8, inode(902)).fails(api.EMFILE),
	)...)
}

// However often files are opened and closed, 32 may be open.
func TestPlacesAreUsedAgain(t *testing.T) {
	var l []step
	for i := range 200 {
		l = append(l, opens(1+i%8, 0, i), ends(1+i%8, 0, i, 0))
	}
	l = append(l, many(32)...)
	l = append(l, open(8, inode(1)).fails(api.EMFILE))
	for i := range 32 {
		l = append(l, looks(1+i/6, i%6, 100+i, 1))
	}
	play(t, l...)
}

func TestDupOfEachProcessAndDescriptor(t *testing.T) {
	for _, pid := range allPids() {
		for fd := range lastFd {
			var l []step
			for to := fd + 1; to < api.MaxFd; to++ {
				l = append(l, dup(pid, fd).is(to), looks(pid, to, 10+fd, to-fd+1), looks(pid, fd, 10+fd, to-fd+1), left(pid).is(5-to))
			}
			l = append(l, dup(pid, fd).fails(api.EMFILE), looks(pid, fd, 10+fd, 6-fd))
			play(t, joined(opened(pid, 10, fd+1), l)...)
		}
		play(t, joined(opened(pid, 10, 6), steps(dup(pid, 0).fails(api.EMFILE), dup(pid, 3).fails(api.EMFILE), dup(pid, 5).fails(api.EMFILE)))...)
	}
}

func TestDupTakesTheLowestThatIsFree(t *testing.T) {
	for _, pid := range allPids() {
		for fd := range api.MaxFd {
			of := (fd + 2) % api.MaxFd
			play(t, joined(opened(pid, 10, 6), steps(
				ends(pid, fd, 10+fd, 0),
				dup(pid, of).is(fd),
				looks(pid, fd, 10+of, 2),
				looks(pid, of, 10+of, 2),
				dup(pid, of).fails(api.EMFILE),
				left(pid).is(0),
			))...)
			for higher := fd + 1; higher < api.MaxFd; higher++ {
				of := 0
				for of == fd || of == higher {
					of++
				}
				play(t, joined(opened(pid, 10, 6), steps(
					ends(pid, higher, 10+higher, 0),
					ends(pid, fd, 10+fd, 0),
					dup(pid, of).is(fd),
					dup(pid, fd).is(higher),
					looks(pid, higher, 10+of, 3),
				))...)
			}
		}
	}
}

func TestDupOfWhatNamesNothing(t *testing.T) {
	for _, pid := range allPids() {
		for fd := range api.MaxFd {
			play(t, joined(opened(pid, 10, 6), steps(
				ends(pid, fd, 10+fd, 0),
				dup(pid, fd).fails(api.EBADF),
				left(pid).is(1),
			))...)
		}
	}
}

// A second name needs a descriptor, but no open file of its own.
func TestDupWhereMaxOpenFilesAreOpen(t *testing.T) {
	play(t, append(many(31), dup(6, 0).is(1), looks(6, 1, 130, 2))...)
	play(t, append(many(32),
		dup(6, 1).is(2),
		looks(6, 2, 131, 2),
		dup(6, 2).is(3), dup(6, 2).is(4), dup(6, 2).is(5),
		dup(6, 2).fails(api.EMFILE),
		dup(1, 0).fails(api.EMFILE),
		dup(7, 0).fails(api.EBADF),
		looks(6, 5, 131, 5),
		open(7, inode(1)).fails(api.EMFILE),
	)...)
}

func TestCloseOfEachProcessAndDescriptor(t *testing.T) {
	for _, pid := range allPids() {
		for fd := range api.MaxFd {
			l := steps(
				ends(pid, fd, 10+fd, 0),
				namesNone(pid, fd),
				closes(pid, fd).fails(api.EBADF),
				left(pid).is(1),
			)
			for other := range api.MaxFd {
				if other != fd {
					l = append(l, looks(pid, other, 10+other, 1))
				}
			}
			play(t, joined(opened(pid, 10, 6), l)...)
		}
	}
}

func TestCloseTellsTheFileAsItIsThen(t *testing.T) {
	x := api.File{Kind: api.FileWriter, Id: 3, Off: 5, Append: true}
	play(t,
		open(2, x).is(0),
		dup(2, 0).is(1),
		dup(2, 1).is(2),
		fork(2, 5).ok(),
		get(5, 2).tells(refs(x, 6)),
		closes(2, 1).tells(refs(x, 5)),
		namesNone(2, 1),
		get(2, 0).tells(refs(x, 5)),
		seek(5, 1, 77).ok(),
		closes(2, 0).tells(at(refs(x, 4), 77)),
		closes(2, 2).tells(at(refs(x, 3), 77)),
		closes(2, 2).fails(api.EBADF),
		closes(5, 0).tells(at(refs(x, 2), 77)),
		closes(5, 2).tells(at(refs(x, 1), 77)),
		ids(api.FileWriter).are(3),
		closes(5, 1).tells(at(refs(x, 0), 77)),
		ids(api.FileWriter).are(),
		closes(5, 1).fails(api.EBADF),
		left(2).is(6), left(5).is(6),
	)
}

func TestGetTellsTheFile(t *testing.T) {
	x := api.File{Kind: api.FileInode, Id: 9, Off: 4, Append: true}
	for _, pid := range allPids() {
		for fd := range api.MaxFd {
			play(t, joined(opened(pid, 10, fd), steps(
				namesNone(pid, fd),
				open(pid, x).is(fd),
				get(pid, fd).tells(one(x)),
				get(pid, fd).tells(one(x)),
				closes(pid, fd).tells(x),
				namesNone(pid, fd),
			))...)
		}
	}
	play(t, append(many(32), looks(1, 0, 100, 1), looks(5, 5, 129, 1), looks(6, 1, 131, 1), namesNone(6, 2), namesNone(8, 5))...)
}

func TestSeek(t *testing.T) {
	for _, off := range []int{0, 1, 7, 191, 192, 193, 1<<20 - 1, 1 << 20, 1<<20 + 1, 1 << 31, 1 << 32, 1 << 62, math.MaxInt - 1, math.MaxInt} {
		for _, pid := range allPids() {
			play(t,
				opens(pid, 0, 4),
				opens(pid, 1, 4),
				dup(pid, 0).is(2),
				fork(pid, pid%lastPid+1).ok(),
				seek(pid, 2, off).ok(),
				get(pid, 0).tells(at(refs(inode(4), 4), off)),
				get(pid, 2).tells(at(refs(inode(4), 4), off)),
				get(pid%lastPid+1, 0).tells(at(refs(inode(4), 4), off)),
				looks(pid, 1, 4, 2), // another file on the same inode
				seek(pid, 1, 6).ok(),
				get(pid, 0).tells(at(refs(inode(4), 4), off)),
				seek(pid%lastPid+1, 0, 3).ok(),
				get(pid, 2).tells(at(refs(inode(4), 4), 3)),
				get(pid, 1).tells(at(refs(inode(4), 2), 6)),
				seek(pid, 0, 0).ok(),
				looks(pid, 2, 4, 4),
			)
		}
	}
}

func TestSeekBelowZero(t *testing.T) {
	for _, off := range []int{-1, -2, -192, -1 << 20, -1 << 31, -1 << 32, -1<<32 + 5, math.MinInt + 1, math.MinInt} {
		for _, x := range []api.File{console(), inode(4), reader(2), {Kind: api.FileWriter}} {
			play(t,
				open(4, x).is(0),
				seek(4, 0, off).fails(api.EINVAL),
				seek(4, 0, 5).ok(),
				seek(4, 0, off).fails(api.EINVAL),
				get(4, 0).tells(at(one(x), 5)),
				seek(4, 1, off).fails(api.EBADF), // that comes first
				seek(5, 0, off).fails(api.EBADF),
				seek(9, 0, off).fails(api.EBADF),
				seek(4, 6, off).fails(api.EBADF),
				seek(4, -1, off).fails(api.EBADF),
			)
		}
	}
}

func TestSeekOfEachDescriptor(t *testing.T) {
	for _, pid := range allPids() {
		l := opened(pid, 10, 6)
		for fd := range api.MaxFd {
			l = append(l, seek(pid, fd, 50+fd).ok())
		}
		for fd := range api.MaxFd {
			l = append(l, get(pid, fd).tells(at(one(inode(10+fd)), 50+fd)))
		}
		play(t, l...)
	}
	play(t, append(many(32), seek(6, 1, 3).ok(), get(6, 1).tells(at(one(inode(131)), 3)), looks(6, 0, 130, 1), seek(6, 2, 3).fails(api.EBADF))...)
}

// badCalls is calls on a descriptor; where all are in use EMFILE is there too, and with -1 EINVAL, but EBADF comes first.
func badCalls(pid, fd int) []step {
	return steps(
		dup(pid, fd).fails(api.EBADF),
		closes(pid, fd).fails(api.EBADF),
		get(pid, fd).fails(api.EBADF),
		seek(pid, fd, 3).fails(api.EBADF),
		seek(pid, fd, -1).fails(api.EBADF),
	)
}

func TestWhatIsNoProcess(t *testing.T) {
	for _, no := range noPids() {
		for _, fd := range []int{0, 3, lastFd} {
			play(t, joined(badCalls(no, fd), opened(1, 10, 6), badCalls(no, fd))...)
		}
		play(t, joined(many(32), badCalls(no, 0), steps(open(no, inode(1)).fails(api.EBADF)))...)
	}
}

func TestWhatIsNoDescriptor(t *testing.T) {
	for _, no := range noFds() {
		for _, pid := range []int{1, 4, lastPid} {
			play(t, joined(badCalls(pid, no), opened(pid, 10, 6), badCalls(pid, no))...)
		}
		play(t, joined(many(32), badCalls(1, no), badCalls(6, no))...)
	}
}

func TestWhatIsNeither(t *testing.T) {
	l := many(32)
	for _, pid := range noPids() {
		for _, fd := range noFds() {
			f := again(t, l)
			for _, s := range badCalls(pid, fd) {
				if got := s.on(f); !got.same(s.want) {
					t.Errorf("%v answers %v, want %v", s.call, got, s.want)
				}
			}
			if got, want := encode().on(f), encode().on(again(t, l)); !got.same(want) {
				t.Errorf("behind calls on %d, %d: %v, want %v", pid, fd, got, want)
			}
		}
	}
}

func TestNil(t *testing.T) {
	var f *fds.Fds
	for _, pid := range append(noPids(), allPids()...) {
		for _, fd := range append(noFds(), 0, 1, 2, 3, 4, 5) {
			for _, s := range badCalls(pid, fd) {
				if got := s.on(f); !got.same(s.want) {
					t.Errorf("on nil %v answers %v, want %v", s.call, got, s.want)
				}
			}
		}
		for _, s := range steps(open(pid, inode(4)).fails(api.EBADF), fork(pid, 2).ok(), fork(1, pid).ok(), fork(pid, pid).ok(), gone(pid).told(), left(pid).is(0), ids(pid).are(), encode().words(nil)) {
			if got := s.on(f); !got.same(s.want) {
				t.Errorf("on nil %v answers %v, want %v", s.call, got, s.want)
			}
		}
	}
	for _, w := range [][]uint64{nil, {}} {
		if g, e := fds.Decode(w); g != nil || e != api.ErrArg {
			t.Errorf("Decode(%v) = %v, %d", w, g, e)
		}
	}
}
