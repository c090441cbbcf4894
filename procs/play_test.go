package procs_test

import (
	"fmt"
	"math"
	"slices"
	"testing"

	"janus/api"
	"janus/procs"
)

const lastPid = api.MaxProcs

// call is one call with its arguments.
type call struct {
	name        string
	pid, status int
}

func begin() call               { return call{name: "Begin"} }
func fork(pid int) call         { return call{name: "Fork", pid: pid} }
func exit(pid, status int) call { return call{name: "Exit", pid: pid, status: status} }
func wait(pid int) call         { return call{name: "Wait", pid: pid} }
func live(pid int) call         { return call{name: "Live", pid: pid} }
func parent(pid int) call       { return call{name: "Parent", pid: pid} }
func all() call                 { return call{name: "All"} }
func encode() call              { return call{name: "Encode"} }

func (c call) String() string { return fmt.Sprintf("%s(%d, %d)", c.name, c.pid, c.status) }

// answer is what a call answers, in the fields that it has a result for.
type answer struct {
	n, status int
	is        bool
	pids      []int
	words     []uint64
	e         api.Errno
}

func (a answer) same(b answer) bool {
	return a.n == b.n && a.status == b.status && a.is == b.is && slices.Equal(a.pids, b.pids) && slices.Equal(a.words, b.words) && a.e == b.e
}

// on makes the call.
func (c call) on(p *procs.Procs) (a answer) {
	switch c.name {
	case "Begin":
		a.n = p.Begin()
	case "Fork":
		a.n, a.e = p.Fork(c.pid)
	case "Exit":
		a.e = p.Exit(c.pid, c.status)
	case "Wait":
		a.n, a.status, a.e, a.is = p.Wait(c.pid)
	case "Live":
		a.is = p.Live(c.pid)
	case "Parent":
		a.n = p.Parent(c.pid)
	case "All":
		a.pids = p.All()
	case "Encode":
		a.words = p.Encode()
	}
	return a
}

// step is a call, and what it should answer.
type step struct {
	call
	want answer
}

func (c call) ok() step                 { return step{call: c} }
func (c call) waits() step              { return step{call: c} }
func (c call) no() step                 { return step{call: c} }
func (c call) yes() step                { return step{c, answer{is: true}} }
func (c call) fails(e api.Errno) step   { return step{c, answer{e: e}} }
func (c call) gives(n int) step         { return step{c, answer{n: n}} }
func (c call) tells(n, status int) step { return step{c, answer{n: n, status: status, is: true}} }
func (c call) are(pids ...int) step     { return step{c, answer{pids: pids}} }
func (c call) words(w []uint64) step    { return step{c, answer{words: w}} }

func steps(l ...step) []step    { return l }
func joined(l ...[]step) []step { return slices.Concat(l...) }

func isPid(pid int) bool { return pid >= 1 && pid <= 8 }
func allPids() []int     { return []int{1, 2, 3, 4, 5, 6, 7, 8} }

func allBut(pids ...int) []int {
	return slices.DeleteFunc(allPids(), func(pid int) bool { return slices.Contains(pids, pid) })
}

func statuses() []int {
	return []int{0, 1, 2, 5, 137, 255, 256, -1, -2, -128, 1 << 31, 1 << 32, -1 << 32, math.MaxInt, math.MinInt, math.MinInt + 1}
}

// keeps says that the call should have changed nothing: it is refused, it waits, or it asks alone.
func (s step) keeps() bool {
	switch s.name {
	case "Begin":
		return s.want.n == 0
	case "Fork", "Exit":
		return s.want.e != api.OK
	case "Wait":
		return !s.want.is
	}
	return true
}

func fresh(t *testing.T) *procs.Procs {
	t.Helper()
	p := procs.New()
	if p == nil {
		t.Fatal("New() = nil")
	}
	return p
}

// play makes the calls on a new one, and asks behind each of them who lives, and whose child each is; those that keep all as it was must not be told by a later call.
func play(t *testing.T, steps ...step) *procs.Procs {
	t.Helper()
	p := fresh(t)
	for i, x := range steps {
		if got := x.on(p); !got.same(x.want) {
			t.Fatalf("step %d: %v answers %v, want %v", i, x.call, got, x.want)
		}
		wantAgreed(t, x.call, p)
		if x.keeps() {
			wantSame(t, x.call, again(t, steps[:i+1]), again(t, steps[:i]))
		}
	}
	return p
}

func again(t *testing.T, steps []step) *procs.Procs {
	t.Helper()
	p := fresh(t)
	for _, x := range steps {
		x.on(p)
	}
	return p
}

// wantAgreed asks Live, Parent and All for what the words tell.
func wantAgreed(t *testing.T, behind call, p *procs.Procs) {
	t.Helper()
	w := p.Encode()
	if len(w) != 3*lastPid {
		t.Fatalf("behind %v: Encode answers %v", behind, w)
	}
	var living []int
	for _, pid := range allPids() {
		lives, whose := w[3*pid-3] == 1, int(w[3*pid-2])
		if lives {
			living = append(living, pid)
		}
		if w[3*pid-3] == 0 {
			whose = -1
		}
		if p.Live(pid) != lives || p.Parent(pid) != whose {
			t.Fatalf("behind %v: Live(%d) = %v, Parent(%d) = %d, and the words are %v", behind, pid, p.Live(pid), pid, p.Parent(pid), w)
		}
	}
	if got := p.All(); !slices.Equal(got, living) {
		t.Fatalf("behind %v: All() = %v, and the words are %v", behind, got, w)
	}
	for _, pid := range noPids() {
		if p.Live(pid) || p.Parent(pid) != -1 {
			t.Fatalf("behind %v: Live(%d) = %v, Parent(%d) = %d", behind, pid, p.Live(pid), pid, p.Parent(pid))
		}
	}
}

// asks is calls that change nothing.
func asks() []call {
	l := []call{encode(), all()}
	for pid := -1; pid <= lastPid+1; pid++ {
		l = append(l, live(pid), parent(pid))
	}
	return l
}

// usesUp is calls that tell all zombies, fill all pids, and end all, first the parents, then what is left.
func usesUp() []call {
	l := append(asks(), begin())
	for _, pid := range allPids() {
		l = append(l, wait(pid), wait(pid), encode())
	}
	for _, pid := range allPids() {
		l = append(l, fork(pid))
	}
	l = append(l, fork(1), fork(8), encode())
	for _, pid := range []int{2, 7, 1, 8, 4, 3, 6, 5} {
		l = append(l, exit(pid, pid-4), wait(pid-1), wait(pid+1), wait(5), encode())
	}
	return append(l, begin(), fork(1), exit(1, 9), encode(), exit(2, 9), begin(), encode())
}

// wantSame asks both for all that they tell, and uses them up.
func wantSame(t *testing.T, behind call, p, other *procs.Procs) {
	t.Helper()
	for _, c := range usesUp() {
		if got, want := c.on(p), c.on(other); !got.same(want) {
			t.Fatalf("behind %v: %v answers %v, want %v", behind, c, got, want)
		}
	}
}

// noPids is numbers of which none is a process's, among them some that would be small ones if some of their bits were lost.
func noPids() []int {
	return []int{0, -1, 9, 10, -2, -8, -9, 16, 17, 63, 64, 65, 127, 128, 129, 255, 256, 257, 1 << 16, 1<<16 + 1, 1 << 31, 1 << 32, 1<<32 + 1, 1<<32 + 8, 1<<32 - 1, -1 << 31, -1 << 32, -1<<32 + 1, 1 << 62, -1 << 62, math.MinInt, math.MinInt + 1, math.MaxInt - 1, math.MaxInt}
}

// begun begins, and forks once of each of those.
func begun(of ...int) []step {
	l := steps(begin().gives(1))
	for i, pid := range of {
		l = append(l, fork(pid).gives(i+2))
	}
	return l
}

// flat is all 8, the children of 1; chain is all 8, each the child of the one ahead.
func flat() []step  { return begun(1, 1, 1, 1, 1, 1, 1) }
func chain() []step { return begun(1, 2, 3, 4, 5, 6, 7) }

// busy has some of all kinds: 1 and 5 are nobody's, 2 and 7 are zombies of 1, 3 and 6 are children of 5, 8 is its zombie, 4 is free.
func busy() []step {
	return joined(begun(1, 1, 3, 4, 5, 1, 5), steps(
		exit(3, 3).ok(), exit(4, 4).ok(), wait(1).tells(3, 3), fork(1).gives(3), fork(3).gives(4), exit(4, 4).ok(), exit(3, 6).ok(),
		wait(1).tells(3, 6), fork(5).gives(3), fork(3).gives(4), fork(5).fails(api.EAGAIN), exit(4, 0).ok(), wait(3).tells(4, 0),
		exit(2, -2).ok(), exit(7, 1<<40).ok(), exit(8, 255).ok()))
}
