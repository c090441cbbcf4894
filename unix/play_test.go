package unix_test

import (
	"fmt"
	"math"
	"slices"
	"strings"
	"testing"

	"janus/api"
	"janus/blocks"
	"janus/fds"
	"janus/fscore"
	"janus/inode"
	"janus/pipes"
	"janus/procs"
	"janus/signals"
	"janus/unix"
)

const (
	lastPid = api.MaxProcs
	lastFd  = api.MaxFd - 1
	lastSig = api.MaxSig
)

const (
	byDefault uint64 = 1<<64 - 1
	toIgnore  uint64 = 1<<64 - 2
)

// program may be run, and dead may not: it ends.
const (
	program = "\x15\x00\x00"
	dead    = "\x00\x05"
)

// longText fills a file.
var longText = strings.Repeat("0123456789abcdef", 12)

// house is the tree that is played on, its inodes from 1 on in this order.
func house() []api.Node {
	return []api.Node{
		{Path: "/f", Data: "hello"},
		{Path: "/d", Dir: true},
		{Path: "/d/g", Data: "inner"},
		{Path: "/prog", Data: program},
		{Path: "/dead", Data: dead},
		{Path: "/none"},
		{Path: "/long", Data: longText},
		{Path: "/d/e", Dir: true},
	}
}

// The inodes of house.
const (
	fInode = 1 + iota
	dInode
	gInode
	progInode
	deadInode
	noneInode
	longInode
	eInode
	freeInode
)

// world is a core with a disk and a console.
type world struct {
	c   *unix.Core
	d   *blocks.Disk
	in  string // what the console has left
	out string
}

const typed = "typed words, as many as are read of them"

func made(t *testing.T, count int, tree []api.Node) *world {
	t.Helper()
	w := &world{c: unix.New(), d: blocks.New(count), in: typed}
	if w.c == nil {
		t.Fatal("New() = nil")
	}
	if e := fscore.Make(w.d, count, tree); e != api.OK {
		t.Fatalf("Make answers %d", e)
	}
	return w
}

func fresh(t *testing.T) *world {
	t.Helper()
	return made(t, 60, house())
}

// call is one call with its arguments; x is what Do is asked for.
type call struct {
	name string
	pid  int
	n    int
	x    api.Call
	v    api.Vm
}

func does(pid int, x api.Call) call { return call{name: "Do", pid: pid, x: x} }

func begin(pid int) call             { return call{name: "Begin", pid: pid} }
func next(pid int, v api.Vm) call    { return call{name: "Signal", pid: pid, v: v} }
func killed(pid, status int) call    { return call{name: "Kill", pid: pid, n: status} }
func live(pid int) call              { return call{name: "Live", pid: pid} }
func saved(pid int) call             { return call{name: "Saved", pid: pid} }
func pids() call                     { return call{name: "Pids"} }
func encode() call                   { return call{name: "Encode"} }
func tree() call                     { return call{name: "Tree"} }
func exit(pid int, a uint64) call    { return does(pid, api.Call{N: api.SysExit, A: a}) }
func fork(pid int) call              { return does(pid, api.Call{N: api.SysFork}) }
func exec(pid int, path string) call { return does(pid, api.Call{N: api.SysExec, Text: path}) }
func wait(pid int) call              { return does(pid, api.Call{N: api.SysWait, A: 7}) }
func closes(pid int, fd uint64) call { return does(pid, api.Call{N: api.SysClose, A: fd}) }
func pipe(pid int) call              { return does(pid, api.Call{N: api.SysPipe, A: 7}) }
func dup(pid int, fd uint64) call    { return does(pid, api.Call{N: api.SysDup, A: fd}) }
func getpid(pid int) call            { return does(pid, api.Call{N: api.SysGetpid}) }
func sigret(pid int) call            { return does(pid, api.Call{N: api.SysSigret}) }
func yield(pid int) call             { return does(pid, api.Call{N: api.SysYield}) }

func open(pid int, path string, flags uint64) call {
	return does(pid, api.Call{N: api.SysOpen, Text: path, C: flags})
}
func read(pid int, fd, n uint64) call {
	return does(pid, api.Call{N: api.SysRead, A: fd, B: 7, C: n})
}
func write(pid int, fd uint64, text string) call {
	return does(pid, api.Call{N: api.SysWrite, A: fd, Text: text})
}
func unlink(pid int, path string) call {
	return does(pid, api.Call{N: api.SysUnlink, Text: path})
}
func mkdir(pid int, path string) call {
	return does(pid, api.Call{N: api.SysMkdir, Text: path})
}
func link(pid int, from, to string) call {
	return does(pid, api.Call{N: api.SysLink, Text: from, Text2: to})
}
func rename(pid int, from, to string) call {
	return does(pid, api.Call{N: api.SysRename, Text: from, Text2: to})
}
func kill(pid int, whom, sig uint64) call {
	return does(pid, api.Call{N: api.SysKill, A: whom, B: sig})
}
func signal(pid int, sig, handler uint64) call {
	return does(pid, api.Call{N: api.SysSignal, A: sig, B: handler})
}

func at(pc int, stack ...uint64) api.Vm { return api.Vm{Pc: pc, Stack: stack} }

func (c call) String() string {
	return short(fmt.Sprintf("%s(%d, %d, %+v, %d %v)", c.name, c.pid, c.n, c.x, c.v.Pc, c.v.Stack[:min(9, len(c.v.Stack))]))
}

// short tells a long thing by its front alone.
func short(x any) string {
	s := fmt.Sprint(x)
	return s[:min(300, len(s))]
}

// answer is what a call answers, in the fields that it has a result for.
type answer struct {
	ret   api.Ret
	shown string
	taken int
	waits bool
	n     int
	h     uint64
	is    bool
	v     api.Vm
	pids  []int
	words []uint64
	nodes []api.Node
	e     api.Errno
}

func sameVm(a, b api.Vm) bool { return a.Pc == b.Pc && slices.Equal(a.Stack, b.Stack) }

func (a answer) same(b answer) bool {
	return a.ret == b.ret && a.shown == b.shown && a.taken == b.taken && a.waits == b.waits && a.n == b.n && a.h == b.h && a.is == b.is &&
		sameVm(a.v, b.v) && slices.Equal(a.pids, b.pids) && slices.Equal(a.words, b.words) && slices.Equal(a.nodes, b.nodes) && a.e == b.e
}

// on makes the call; what it takes from the console is taken there, and what it writes is shown.
func (c call) on(w *world) (a answer) {
	switch c.name {
	case "Begin":
		a.e = w.c.Begin(c.pid)
	case "Signal":
		a.n, a.h, a.is = w.c.Signal(c.pid, c.v)
	case "Do":
		a.ret, a.shown, a.taken, a.waits = w.c.Do(w.d, c.pid, c.x, w.in)
		if a.taken >= 0 && a.taken <= len(w.in) {
			w.in = w.in[a.taken:]
		}
		w.out += a.shown
	case "Kill":
		w.c.Kill(w.d, c.pid, c.n)
	case "Live":
		a.is = w.c.Live(c.pid)
	case "Saved":
		a.v, a.is = w.c.Saved(c.pid)
	case "Pids":
		a.pids = w.c.Pids()
	case "Encode":
		a.words = w.c.Encode()
	case "Tree":
		a.nodes = fscore.Tree(w.d)
	}
	return a
}

// step is a call, and what it should answer.
type step struct {
	call
	want answer
}

func (c call) rets(r api.Ret) step          { return step{c, answer{ret: r}} }
func (c call) ok() step                     { return step{call: c} }
func (c call) gives(n int) step             { return c.rets(api.Ret{N: n}) }
func (c call) two(a, b int) step            { return c.rets(api.Ret{Two: [2]int{a, b}}) }
func (c call) told(pid, status int) step    { return c.rets(api.Ret{N: pid, Two: [2]int{status, 0}}) }
func (c call) reads(data string) step       { return c.rets(api.Ret{N: len(data), Data: data}) }
func (c call) runs(data string) step        { return c.rets(api.Ret{Data: data}) }
func (c call) waits() step                  { return step{c, answer{waits: true}} }
func (c call) tells(sig int, h uint64) step { return step{c, answer{n: sig, h: h, is: true}} }
func (c call) is(v api.Vm) step             { return step{c, answer{v: v, is: true}} }
func (c call) no() step                     { return step{call: c} }
func (c call) yes() step                    { return step{c, answer{is: true}} }
func (c call) are(pids ...int) step         { return step{c, answer{pids: pids}} }
func (c call) words(w []uint64) step        { return step{c, answer{words: w}} }

func (c call) fails(e api.Errno) step {
	if c.name == "Do" {
		return c.rets(api.Ret{Err: e})
	}
	return step{c, answer{e: e}}
}

// takes is a read of the console.
func (c call) takes(data string) step {
	return step{c, answer{ret: api.Ret{N: len(data), Data: data}, taken: len(data)}}
}

// shows is a write to the console.
func (c call) shows() step {
	return step{c, answer{ret: api.Ret{N: len(c.x.Text)}, shown: c.x.Text}}
}

func steps(l ...step) []step    { return l }
func joined(l ...[]step) []step { return slices.Concat(l...) }

// keeps says that the call should have changed nothing: it is refused, it waits, or it asks alone.
func (s step) keeps() bool {
	switch s.name {
	case "Begin":
		return s.want.e != api.OK
	case "Signal", "Kill":
		return s.pid < 1 || s.pid > lastPid
	case "Do":
		return s.want.waits || s.want.ret.Err != api.OK && s.want.ret.Err != api.EPIPE
	}
	return true
}

// snap is all that there is: the core's words and the disk's.
func (w *world) snap() []uint64 {
	l := w.c.Encode()
	for b := range w.d.Len() {
		words, _ := w.d.Get(b)
		l = append(l, words...)
	}
	return l
}

// play makes the calls in a new world.
func play(t *testing.T, l ...step) *world {
	t.Helper()
	w := fresh(t)
	playOn(t, w, fresh(t), l...)
	return w
}

// playOn makes the calls in w, and in twin, which is like it, those alone that may change something: no later call must tell them apart.
func playOn(t *testing.T, w, twin *world, l ...step) {
	t.Helper()
	for i, x := range l {
		was, in, out := w.snap(), w.in, w.out
		if got := x.on(w); !got.same(x.want) {
			t.Fatalf("step %d: %v answers %s, want %s", i, x.call, short(got), short(x.want))
		}
		if x.keeps() {
			if !slices.Equal(w.snap(), was) || w.in != in || w.out != out {
				t.Fatalf("step %d: %v changes something", i, x.call)
			}
		} else {
			x.on(twin)
		}
		wantSound(t, x.call, w)
	}
	last := call{}
	if len(l) > 0 {
		last = l[len(l)-1].call
	}
	wantSame(t, last, copyOf(t, w), copyOf(t, twin))
}

// copyOf is a world that is like this one, read from words.
func copyOf(t *testing.T, w *world) *world {
	t.Helper()
	n := &world{c: wantBack(t, w.c), d: blocks.New(w.d.Len()), in: w.in, out: w.out}
	for b := range w.d.Len() {
		words, _ := w.d.Get(b)
		n.d.Put(b, words)
	}
	return n
}

// cut is the four parts of a core's words.
func cut(t *testing.T, w []uint64) [4][]uint64 {
	t.Helper()
	var parts [4][]uint64
	for i := range parts {
		if len(w) == 0 || w[0] > uint64(len(w)-1) {
			t.Fatalf("part %d of the words is %v", i, w[:min(len(w), 9)])
		}
		parts[i], w = w[1:w[0]+1], w[w[0]+1:]
	}
	if len(w) != 0 {
		t.Fatalf("%d words are left", len(w))
	}
	return parts
}

// wantSound asks for what must hold of all that calls make: who does not live has nothing, pipes are open, and files without names are; and nothing is in use beside.
func wantSound(t *testing.T, behind call, w *world) {
	t.Helper()
	parts := cut(t, w.c.Encode())
	f, e0 := fds.Decode(parts[0])
	p, e1 := pipes.Decode(parts[1])
	s, e2 := signals.Decode(parts[2])
	tree, e3 := procs.Decode(parts[3])
	if e0 != api.OK || e1 != api.OK || e2 != api.OK || e3 != api.OK {
		t.Fatalf("behind %v: the parts are no words: %d %d %d %d", behind, e0, e1, e2, e3)
	}
	if !slices.Equal(w.c.Pids(), tree.All()) {
		t.Fatalf("behind %v: Pids() = %v, and the words are %v", behind, w.c.Pids(), parts[3])
	}
	first := signals.New().Encode()[:17]
	for pid := 1; pid <= lastPid; pid++ {
		if w.c.Live(pid) != tree.Live(pid) {
			t.Fatalf("behind %v: Live(%d) = %v", behind, pid, w.c.Live(pid))
		}
		if !tree.Live(pid) && (f.Left(pid) != 6 || !slices.Equal(wordsOfSignals(s, pid), first)) {
			t.Fatalf("behind %v: %d does not live, and has something", behind, pid)
		}
		before := w.c.Encode()
		v, is := w.c.Saved(pid)
		kept, e := s.Leave(pid)
		if is != (e == api.OK) || !sameVm(v, kept) || !slices.Equal(w.c.Encode(), before) {
			t.Fatalf("behind %v: Saved(%d) = %v, %v, want %v, %d", behind, pid, v, is, kept, e)
		}
	}
	sides := append(f.Ids(api.FileReader), f.Ids(api.FileWriter)...)
	for id := range api.MaxPipes {
		if made := p.Drop(id) == api.OK; made != slices.Contains(sides, id) {
			t.Fatalf("behind %v: pipe %d is there: %v, open are %v", behind, id, made, sides)
		}
	}
	wantSoundDisk(t, behind, w.d, f.Ids(api.FileInode))
}

// wordsOfSignals is those of one process: its 15 handlers, what is pending, 0 or 1.
func wordsOfSignals(s *signals.Signals, pid int) []uint64 {
	w := s.Encode()
	for at := 1; ; at++ {
		n := 17
		if w[16] == 1 {
			n = 19 + int(w[18])
		}
		if at == pid {
			return w[:n]
		}
		w = w[n:]
	}
}

// wantSoundDisk asks for an inode for each that has a name or is open, and no other; and for no blocks that are nobody's.
func wantSoundDisk(t *testing.T, behind call, d *blocks.Disk, open []int) {
	t.Helper()
	inUse, used := 0, 12
	for i := range api.MaxInodes {
		x, e := inode.Get(d, i)
		if e != api.OK {
			t.Fatalf("behind %v: Get(%d) answers %d", behind, i, e)
		}
		if x.Kind == api.InodeFree {
			continue
		}
		inUse++
		used += (x.Size + 31) / 32
		if isOpen := slices.Contains(open, i); x.Links == 0 && !isOpen || isOpen && x.Kind != api.InodeFile {
			t.Fatalf("behind %v: inode %d is %v, open are %v", behind, i, x, open)
		}
	}
	for _, i := range open {
		if x, e := inode.Get(d, i); e != api.OK || x.Kind != api.InodeFile {
			t.Fatalf("behind %v: inode %d is open, and is %v, %d", behind, i, x, e)
		}
	}
	if inodes, left := inode.Left(d); inodes != 32-inUse || left != d.Len()-used {
		t.Fatalf("behind %v: %d inodes and %d blocks are left, want %d and %d", behind, inodes, left, 32-inUse, d.Len()-used)
	}
}

// usesUp is calls that ask for all that there is, use it, fill what is free, and end all.
func usesUp() []call {
	l := []call{encode(), pids(), tree()}
	for pid := 1; pid <= lastPid; pid++ {
		l = append(l, saved(pid), next(pid, at(3, 4)), saved(pid), sigret(pid), next(pid, at(5)), kill(pid, 1, 10), wait(pid))
		for fd := range uint64(lastFd + 1) {
			l = append(l, read(pid, fd, 3), write(pid, fd, "zz"), read(pid, fd, 128))
		}
		l = append(l, encode(), dup(pid, 5), closes(pid, 2), open(pid, "/f", 0), open(pid, "/late", 1), closes(pid, 3), pipe(pid), fork(pid), encode())
	}
	for pid := 1; pid <= lastPid; pid++ {
		l = append(l, exec(pid, "/prog"), next(pid, at(6)), wait(pid), unlink(pid, "/f"), mkdir(pid, "/d/new"), encode())
	}
	for _, pid := range []int{3, 8, 1, 2, 5, 4, 7, 6} {
		l = append(l, exit(pid, uint64(pid)), wait(pid-1), wait(pid+1), encode())
	}
	return append(l, tree(), begin(1), fork(1), encode())
}

// wantSame asks both for all that they tell, and uses them up.
func wantSame(t *testing.T, behind call, w, other *world) {
	t.Helper()
	if w.in != other.in || w.out != other.out {
		t.Fatalf("behind %v: the console has %q left and shows %q, want %q and %q", behind, w.in, w.out, other.in, other.out)
	}
	for _, c := range usesUp() {
		if got, want := c.on(w), c.on(other); !got.same(want) {
			t.Fatalf("behind %v: %v answers %s, want %s", behind, c, short(got), short(want))
		}
	}
	if !slices.Equal(w.snap(), other.snap()) {
		t.Fatalf("behind %v: the disks differ", behind)
	}
}

// wantBack asks for the same core from its words, and answers that.
func wantBack(t *testing.T, c *unix.Core) *unix.Core {
	t.Helper()
	return wantRead(t, c.Encode())
}

// wantRead asks for the core whose Encode is w.
func wantRead(t *testing.T, w []uint64) *unix.Core {
	t.Helper()
	c, e := unix.Decode(w)
	if c == nil || e != api.OK {
		t.Fatalf("Decode(%v) = %v, %d", w, c, e)
	}
	if v := c.Encode(); !slices.Equal(v, w) {
		t.Fatalf("%v became %v", w, v)
	}
	return c
}

// farOff is numbers far beyond both ends, among them some that would be small ones if some of their bits were lost.
func farOff() []int {
	return []int{-2, -8, -9, 16, 17, 63, 64, 65, 127, 128, 129, 255, 256, 257, 258, 1 << 16, 1<<16 + 1, 1 << 31, 1 << 32, 1<<32 + 1, 1<<32 + 2, 1<<32 + 9, 1<<32 - 1, -1 << 31, -1 << 32, -1<<32 + 1, 1 << 62, -1 << 62, math.MinInt, math.MinInt + 1, math.MaxInt - 1, math.MaxInt}
}

// noPids is numbers of which none is a process's.
func noPids() []int { return append(farOff(), 0, -1, 9, 10) }

// farWords is farOff as words: those below 0 are beyond an int.
func farWords() []uint64 {
	var l []uint64
	for _, n := range farOff() {
		l = append(l, uint64(n))
	}
	return append(l, math.MaxUint64, 1<<63+1, 1<<63+3)
}

// noFds is numbers of which none is a descriptor's.
func noFds() []uint64 { return append(farWords(), 6, 7, 8, 15) }

// begun is 1, and so many children of it.
func begun(children int) []step {
	l := steps(begin(1).ok())
	for i := range children {
		l = append(l, fork(1).gives(i+2))
	}
	return l
}
