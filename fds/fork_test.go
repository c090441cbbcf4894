package fds_test

import (
	"math"
	"testing"

	"janus/api"
)

// apart is each two processes that are not the same.
func apart() [][2]int {
	var l [][2]int
	for _, pid := range allPids() {
		for _, child := range allPids() {
			if pid != child {
				l = append(l, [2]int{pid, child})
			}
		}
	}
	return l
}

func TestForkOfNoDescriptors(t *testing.T) {
	for _, p := range apart() {
		play(t,
			fork(p[0], p[1]).ok(),
			left(p[0]).is(6), left(p[1]).is(6),
			opens(p[1], 0, 4),
			fork(p[0], p[1]).ok(),
			looks(p[1], 0, 4, 1),
			left(p[0]).is(6), left(p[1]).is(5),
			namesNone(p[0], 0),
		)
	}
}

func TestForkOfSome(t *testing.T) {
	for _, p := range apart() {
		play(t,
			opens(p[0], 0, 10),
			opens(p[0], 1, 11),
			opens(p[0], 2, 12),
			dup(p[0], 2).is(3),
			ends(p[0], 0, 10, 0),
			fork(p[0], p[1]).ok(),
			namesNone(p[1], 0),
			looks(p[1], 1, 11, 2),
			looks(p[1], 2, 12, 4),
			looks(p[1], 3, 12, 4),
			namesNone(p[1], 4), namesNone(p[1], 5),
			looks(p[0], 1, 11, 2),
			looks(p[0], 3, 12, 4),
			left(p[0]).is(3), left(p[1]).is(3),
			seek(p[1], 2, 8).ok(), // they are the same files
			get(p[0], 3).tells(at(refs(inode(12), 4), 8)),
			opens(p[1], 0, 13),
			namesNone(p[0], 0), // but not the same descriptors
			ends(p[0], 1, 11, 1),
			looks(p[1], 1, 11, 1),
		)
	}
}

func TestForkOfAll(t *testing.T) {
	for _, p := range apart() {
		l := append(opened(p[0], 10, 6), fork(p[0], p[1]).ok(), left(p[0]).is(0), left(p[1]).is(0))
		for fd := range api.MaxFd {
			l = append(l, looks(p[0], fd, 10+fd, 2), looks(p[1], fd, 10+fd, 2))
		}
		l = append(l, open(p[1], inode(1)).fails(api.EMFILE), ends(p[1], 3, 13, 1), opens(p[1], 3, 1), looks(p[0], 3, 13, 1))
		play(t, l...)
	}
}

// What the child has, it keeps; what is free names what pid's does.
func TestForkToOneThatHasSome(t *testing.T) {
	for has := range 1 << api.MaxFd {
		l := opened(1, 10, 6)
		l = append(l, opened(2, 20, 6)...)
		for fd := range api.MaxFd {
			if has>>fd&1 == 0 {
				l = append(l, ends(2, fd, 20+fd, 0))
			}
		}
		l = append(l, fork(1, 2).ok(), left(1).is(0), left(2).is(0))
		for fd := range api.MaxFd {
			if has>>fd&1 == 0 {
				l = append(l, looks(2, fd, 10+fd, 2), looks(1, fd, 10+fd, 2))
			} else {
				l = append(l, looks(2, fd, 20+fd, 1), looks(1, fd, 10+fd, 1))
			}
		}
		play(t, l...)
	}
	play(t,
		opens(1, 0, 10), opens(1, 1, 11), ends(1, 0, 10, 0),
		opens(2, 0, 20), // pid has none there, and the child's stays
		fork(1, 2).ok(),
		looks(2, 0, 20, 1), looks(2, 1, 11, 2), namesNone(2, 2), namesNone(1, 0),
	)
}

func TestForkOnceMore(t *testing.T) {
	play(t,
		opens(1, 0, 10),
		fork(1, 2).ok(),
		fork(1, 2).ok(),
		looks(1, 0, 10, 2),
		fork(2, 1).ok(),
		looks(1, 0, 10, 2),
		fork(2, 3).ok(),
		looks(3, 0, 10, 3),
		ends(2, 0, 10, 2),
		fork(3, 2).ok(),
		looks(2, 0, 10, 3),
		opens(1, 1, 11),
		fork(1, 3).ok(),
		looks(3, 0, 10, 3), looks(3, 1, 11, 2), namesNone(2, 1),
	)
}

// Six of each name one file: 48 names.
func TestForkUntilAllNameOneFile(t *testing.T) {
	l := steps(opens(1, 0, 10), dup(1, 0).is(1), dup(1, 0).is(2), dup(1, 0).is(3), dup(1, 0).is(4), dup(1, 0).is(5))
	for pid := 2; pid <= lastPid; pid++ {
		l = append(l, fork(pid-1, pid).ok(), looks(1, 0, 10, 6*pid), looks(pid, 5, 10, 6*pid))
	}
	n := 48
	for pid := 1; pid <= lastPid; pid++ {
		for fd := range api.MaxFd {
			n--
			l = append(l, ends(pid, fd, 10, n))
		}
	}
	l = append(l, ids(api.FileInode).are())
	play(t, l...)
}

func TestForkToItself(t *testing.T) {
	for _, pid := range allPids() {
		play(t,
			fork(pid, pid).ok(),
			opens(pid, 0, 10), opens(pid, 1, 11), dup(pid, 1).is(2), ends(pid, 0, 10, 0),
			fork(pid, pid).ok(),
			namesNone(pid, 0), looks(pid, 1, 11, 2), looks(pid, 2, 11, 2), left(pid).is(4),
		)
		play(t, append(opened(pid, 10, 6), fork(pid, pid).ok(), looks(pid, 0, 10, 1), looks(pid, 5, 15, 1))...)
	}
}

func TestForkWhereOneIsNone(t *testing.T) {
	for _, no := range noPids() {
		for _, pid := range []int{1, 4, lastPid} {
			play(t, append(opened(pid, 10, 3), fork(no, pid).ok(), fork(pid, no).ok(), fork(no, no).ok(), looks(pid, 0, 10, 1), looks(pid, 2, 12, 1), left(pid).is(3))...)
		}
	}
	for _, a := range noPids() {
		for _, b := range noPids() {
			f := again(t, many(32))
			f.Fork(a, b)
			if got, want := encode().on(f), encode().on(again(t, many(32))); !got.same(want) {
				t.Errorf("behind Fork(%d, %d): %v, want %v", a, b, got, want)
			}
		}
	}
}

// Names that are new need no open file that is free.
func TestForkWhereMaxOpenFilesAreOpen(t *testing.T) {
	play(t, append(many(32),
		fork(1, 7).ok(),
		looks(7, 0, 100, 2), looks(7, 5, 105, 2),
		fork(2, 6).ok(),
		looks(6, 0, 130, 1), looks(6, 1, 131, 1), looks(6, 2, 108, 2), looks(6, 5, 111, 2),
		open(8, inode(1)).fails(api.EMFILE),
		gone(1).told(one(inode(100)), one(inode(101)), one(inode(102)), one(inode(103)), one(inode(104)), one(inode(105))),
		open(8, inode(1)).fails(api.EMFILE),
		ends(7, 2, 102, 0),
		opens(8, 0, 1),
	)...)
}

func TestGoneOfNoDescriptors(t *testing.T) {
	for _, pid := range allPids() {
		other := pid%lastPid + 1
		play(t, gone(pid).told(), opens(other, 0, 4), gone(pid).told(), looks(other, 0, 4, 1), gone(other).told(inode(4)), gone(other).told(), left(other).is(6))
	}
}

func TestGoneOfWhatIsNone(t *testing.T) {
	for _, no := range noPids() {
		play(t, gone(no).told(), opens(1, 0, 4), opens(8, 0, 5), gone(no).told(), looks(1, 0, 4, 1), looks(8, 0, 5, 1))
	}
	for _, no := range noPids() {
		play(t, append(many(32), gone(no).told())...)
	}
}

func TestGoneTellsTheFilesRising(t *testing.T) {
	for _, pid := range allPids() {
		other := pid%lastPid + 1
		play(t,
			opens(pid, 0, 12), opens(pid, 1, 11), opens(pid, 2, 10), opens(pid, 3, 13), opens(pid, 4, 11), opens(pid, 5, 2),
			gone(pid).told(inode(12), inode(11), inode(10), inode(13), inode(11), inode(2)),
			left(pid).is(6), namesNone(pid, 0), namesNone(pid, 5),
			ids(api.FileInode).are(),
		)
		play(t,
			opens(pid, 0, 12), opens(pid, 1, 11), dup(pid, 0).is(2), dup(pid, 0).is(3), dup(pid, 1).is(4),
			fork(pid, other).ok(),
			ends(other, 1, 11, 3), ends(other, 4, 11, 2),
			ends(pid, 2, 12, 5),
			seek(other, 0, 9).ok(),
			// each as it is then: the same file with fewer Refs each time
			gone(pid).told(at(refs(inode(12), 4), 9), refs(inode(11), 1), at(refs(inode(12), 3), 9), refs(inode(11), 0)),
			get(other, 3).tells(at(refs(inode(12), 3), 9)),
			left(pid).is(6), left(other).is(3),
			ids(api.FileInode).are(12),
			opens(pid, 0, 5),
			gone(other).told(at(refs(inode(12), 2), 9), at(refs(inode(12), 1), 9), at(refs(inode(12), 0), 9)),
			ids(api.FileInode).are(5),
		)
	}
}

func TestGoneOfAll(t *testing.T) {
	l := many(32)
	for pid := lastPid; pid >= 1; pid-- {
		var files []api.File
		for fd := range api.MaxFd {
			if i := 6*(pid-1) + fd; i < 32 {
				files = append(files, inode(100+i))
			}
		}
		l = append(l, gone(pid).told(files...), left(pid).is(6))
	}
	l = append(l, ids(api.FileInode).are())
	play(t, append(l, append(many(32), open(8, inode(1)).fails(api.EMFILE))...)...)
}

func TestLeft(t *testing.T) {
	for _, pid := range allPids() {
		for has := range 1 << api.MaxFd {
			l, free := opened(pid, 10, 6), 0
			for fd := range api.MaxFd {
				if has>>fd&1 == 0 {
					free++
					l = append(l, ends(pid, fd, 10+fd, 0))
				}
			}
			f := again(t, l)
			for _, other := range allPids() {
				want := 6
				if other == pid {
					want = free
				}
				if got := f.Left(other); got != want {
					t.Errorf("Left(%d) = %d, want %d where %d has %b", other, got, want, pid, has)
				}
			}
		}
	}
	for _, no := range noPids() {
		play(t, left(no).is(0), opens(1, 0, 4), left(no).is(0))
	}
}

// What is left is told of descriptors alone, even where no open file is.
func TestLeftWhereMaxOpenFilesAreOpen(t *testing.T) {
	play(t, append(many(32), left(1).is(0), left(5).is(0), left(6).is(4), left(7).is(6), left(8).is(6), left(9).is(0), left(0).is(0))...)
}

func TestIdsOfEachKind(t *testing.T) {
	for kind := api.FileConsole; kind <= api.FileWriter; kind++ {
		of := func(id int) api.File { return api.File{Kind: kind, Id: id} }
		l := steps(ids(kind).are())
		for i, id := range []int{7, 3, 9, 3, 0, 7} {
			l = append(l, open(1, of(id)).is(i))
		}
		l = append(l,
			ids(kind).are(0, 3, 7, 9),
			open(2, of(5)).is(0),
			open(2, of(0)).is(1),
			fork(2, 3).ok(),
			ids(kind).are(0, 3, 5, 7, 9),
		)
		for other := range 7 {
			if other != kind {
				l = append(l, ids(other).are())
			}
		}
		l = append(l,
			closes(1, 1).tells(of(3)), ids(kind).are(0, 3, 5, 7, 9), // another file has the same Id
			closes(1, 3).tells(of(3)), ids(kind).are(0, 5, 7, 9),
			closes(2, 0).tells(one(of(5))), ids(kind).are(0, 5, 7, 9), // another descriptor names the same file
			closes(3, 0).tells(of(5)), ids(kind).are(0, 7, 9),
		)
		play(t, l...)
	}
}

func TestIdsOfKindsApart(t *testing.T) {
	play(t,
		open(1, console()).is(0), open(1, inode(4)).is(1), open(1, reader(3)).is(2), open(1, api.File{Kind: api.FileWriter, Id: 3}).is(3),
		open(2, inode(2)).is(0), open(2, console()).is(1), open(2, reader(1)).is(2),
		ids(api.FileConsole).are(0), ids(api.FileInode).are(2, 4), ids(api.FileReader).are(1, 3), ids(api.FileWriter).are(3),
		ids(0).are(), ids(5).are(), ids(-1).are(),
	)
}

func TestIdsOfWhatIsNoKind(t *testing.T) {
	for _, kind := range append(farOff(), 0, 5, 6, -1, -2) {
		play(t, ids(kind).are(), open(1, console()).is(0), ids(kind).are())
		play(t, append(many(32), ids(kind).are())...)
	}
}

// Ids at both ends of an int rise too.
func TestIdsOfAllInts(t *testing.T) {
	var l []step
	for i, id := range []int{math.MaxInt, 0, math.MinInt, 5, -1, math.MaxInt} {
		l = append(l, open(1, reader(id)).is(i))
	}
	play(t, append(l, ids(api.FileReader).are(math.MinInt, -1, 0, 5, math.MaxInt))...)
}

func TestIdsOfMaxOpenFiles(t *testing.T) {
	var want []int
	for i := range 32 {
		want = append(want, 100+i)
	}
	play(t, append(many(32), ids(api.FileInode).are(want...))...)
}
