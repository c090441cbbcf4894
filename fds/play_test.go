package fds_test

import (
	"math"
	"slices"
	"testing"

	"janus/api"
	"janus/fds"
)

const (
	lastPid = api.MaxProcs
	lastFd  = api.MaxFd - 1
)

// call is one call with its arguments; n is where Seek goes, whom Fork is for, which kind Ids asks for.
type call struct {
	name       string
	pid, fd, n int
	x          api.File
}

func open(pid int, x api.File) call { return call{name: "Open", pid: pid, x: x} }
func dup(pid, fd int) call          { return call{name: "Dup", pid: pid, fd: fd} }
func closes(pid, fd int) call       { return call{name: "Close", pid: pid, fd: fd} }
func get(pid, fd int) call          { return call{name: "Get", pid: pid, fd: fd} }
func seek(pid, fd, off int) call    { return call{name: "Seek", pid: pid, fd: fd, n: off} }
func fork(pid, child int) call      { return call{name: "Fork", pid: pid, n: child} }
func gone(pid int) call             { return call{name: "Gone", pid: pid} }
func left(pid int) call             { return call{name: "Left", pid: pid} }
func ids(kind int) call             { return call{name: "Ids", n: kind} }
func encode() call                  { return call{name: "Encode"} }

// answer is what a call answers, in the fields that it has a result for.
type answer struct {
	n     int
	x     api.File
	files []api.File
	list  []int
	words []uint64
	e     api.Errno
}

func (a answer) same(b answer) bool {
	return a.n == b.n && a.x == b.x && slices.Equal(a.files, b.files) && slices.Equal(a.list, b.list) && slices.Equal(a.words, b.words) && a.e == b.e
}

// on makes the call.
func (c call) on(f *fds.Fds) (a answer) {
	switch c.name {
	case "Open":
		a.n, a.e = f.Open(c.pid, c.x)
	case "Dup":
		a.n, a.e = f.Dup(c.pid, c.fd)
	case "Close":
		a.x, a.e = f.Close(c.pid, c.fd)
	case "Get":
		a.x, a.e = f.Get(c.pid, c.fd)
	case "Seek":
		a.e = f.Seek(c.pid, c.fd, c.n)
	case "Fork":
		f.Fork(c.pid, c.n)
	case "Gone":
		a.files = f.Gone(c.pid)
	case "Left":
		a.n = f.Left(c.pid)
	case "Ids":
		a.list = f.Ids(c.n)
	case "Encode":
		a.words = f.Encode()
	}
	return a
}

// step is a call, and what it should answer.
type step struct {
	call
	want answer
}

func (c call) ok() step                { return step{call: c} }
func (c call) fails(e api.Errno) step  { return step{c, answer{e: e}} }
func (c call) is(n int) step           { return step{c, answer{n: n}} }
func (c call) tells(x api.File) step   { return step{c, answer{x: x}} }
func (c call) told(l ...api.File) step { return step{c, answer{files: l}} }
func (c call) are(l ...int) step       { return step{c, answer{list: l}} }
func (c call) words(w []uint64) step   { return step{c, answer{words: w}} }

func steps(l ...step) []step    { return l }
func joined(l ...[]step) []step { return slices.Concat(l...) }

func inode(id int) api.File           { return api.File{Kind: api.FileInode, Id: id} }
func reader(id int) api.File          { return api.File{Kind: api.FileReader, Id: id} }
func console() api.File               { return api.File{Kind: api.FileConsole} }
func refs(x api.File, n int) api.File { x.Refs = n; return x }
func one(x api.File) api.File         { return refs(x, 1) }
func at(x api.File, off int) api.File { x.Off = off; return x }

// opens, looks and ends are Open, Get and Close of an inode at its beginning; n is the Refs that are told.
func opens(pid, fd, id int) step    { return open(pid, inode(id)).is(fd) }
func looks(pid, fd, id, n int) step { return get(pid, fd).tells(refs(inode(id), n)) }
func ends(pid, fd, id, n int) step  { return closes(pid, fd).tells(refs(inode(id), n)) }
func namesNone(pid, fd int) step    { return get(pid, fd).fails(api.EBADF) }

func isPid(pid int) bool { return pid >= 1 && pid <= 8 }

// keeps says that the call should have changed nothing: it is refused, or it asks alone, or whom it is of is no process.
func (s step) keeps() bool {
	switch s.name {
	case "Get", "Left", "Ids", "Encode":
		return true
	case "Fork":
		return !isPid(s.pid) || !isPid(s.n) || s.pid == s.n
	case "Gone":
		return !isPid(s.pid)
	}
	return s.want.e != api.OK
}

func fresh(t *testing.T) *fds.Fds {
	t.Helper()
	f := fds.New()
	if f == nil {
		t.Fatal("New() = nil")
	}
	return f
}

// play makes the calls on a new one; those that keep all as it was must not be told by a later call.
func play(t *testing.T, steps ...step) *fds.Fds {
	t.Helper()
	f := fresh(t)
	for i, s := range steps {
		if got := s.on(f); !got.same(s.want) {
			t.Fatalf("step %d: %v answers %v, want %v", i, s.call, got, s.want)
		}
		if s.keeps() {
			wantSame(t, s.call, again(t, steps[:i+1]), again(t, steps[:i]))
		}
	}
	return f
}

func again(t *testing.T, steps []step) *fds.Fds {
	t.Helper()
	f := fresh(t)
	for _, s := range steps {
		s.on(f)
	}
	return f
}

// looksAt is all that can be asked without a change.
func looksAt() []call {
	l := []call{encode()}
	for pid := -1; pid <= lastPid+1; pid++ {
		l = append(l, left(pid))
		for fd := -1; fd <= lastFd+1; fd++ {
			l = append(l, get(pid, fd))
		}
	}
	for kind := -1; kind <= 6; kind++ {
		l = append(l, ids(kind))
	}
	return l
}

// usesUp is calls that take all that is free, close all, and take it once more.
func usesUp() []call {
	var l []call
	for _, id := range []int{600, 700} {
		for range api.MaxFd + 1 {
			for pid := 1; pid <= lastPid; pid++ {
				l = append(l, open(pid, inode(id)), dup(pid, lastFd), seek(pid, 0, id+pid))
			}
		}
		l = append(l, encode())
		for pid := lastPid; pid >= 1; pid-- {
			l = append(l, gone(pid), left(pid))
		}
		l = append(l, encode())
	}
	return l
}

// wantSame asks both all that can be asked, and uses them up.
func wantSame(t *testing.T, behind call, f, g *fds.Fds) {
	t.Helper()
	for _, c := range append(looksAt(), usesUp()...) {
		if got, want := c.on(f), c.on(g); !got.same(want) {
			t.Fatalf("behind %v: %v answers %v, want %v", behind, c, got, want)
		}
	}
}

// farOff is numbers far beyond both ends, among them some that would be small ones if half of their bits were lost.
func farOff() []int {
	return []int{-8, -9, 64, 255, 256, 257, 1 << 16, 1<<16 + 1, 1 << 31, 1 << 32, 1<<32 + 1, 1<<32 - 1, -1 << 31, -1 << 32, -1<<32 + 1, 1 << 62, -1 << 62, math.MinInt, math.MinInt + 1, math.MaxInt - 1, math.MaxInt}
}

// noPids is numbers of which none is a process's.
func noPids() []int { return append(farOff(), 0, 9, 10, -1) }

// noFds is numbers of which none is a descriptor's.
func noFds() []int { return append(farOff(), 6, 7, 48, -1, -6) }

// allPids is the processes, rising.
func allPids() []int { return []int{1, 2, 3, 4, 5, 6, 7, 8} }

// opened opens so many inodes of their own for a process, of Ids from first on, in a row.
func opened(pid, first, n int) []step {
	var l []step
	for fd := range n {
		l = append(l, opens(pid, fd, first+fd))
	}
	return l
}

// many opens n files: six each for processes 1, 2, .., of Ids 100, 101, ..
func many(n int) []step {
	var l []step
	for i := range n {
		l = append(l, opens(1+i/api.MaxFd, i%api.MaxFd, 100+i))
	}
	return l
}
