package locks_test

import (
	"math"
	"slices"
	"testing"

	"janus/api"
	"janus/locks"
)

const nobody = -1

// call is one call with its argument.
type call struct {
	name string
	env  int
}

func ask(env int) call   { return call{"Ask", env} }
func leave(env int) call { return call{"Leave", env} }
func gone(env int) call  { return call{"Gone", env} }

// answer is what a call answers, in the fields that it has a result for.
type answer struct {
	holds bool
	next  int
	e     api.Errno
}

// on makes the call.
func (c call) on(l *locks.Lock) (x answer) {
	switch c.name {
	case "Ask":
		x.holds = l.Ask(c.env)
	case "Leave":
		x.next, x.e = l.Leave(c.env)
	case "Gone":
		l.Gone(c.env)
	}
	return x
}

// step is a call, what it should answer, and who holds the lock and who waits for it then.
type step struct {
	call
	want   answer
	holder int
	queue  []int
}

func (c call) holds() step            { return step{call: c, want: answer{holds: true}} }
func (c call) waits() step            { return step{call: c} }
func (c call) gives(next int) step    { return step{call: c, want: answer{next: next}} }
func (c call) fails(e api.Errno) step { return step{call: c, want: answer{e: e}} }
func (c call) done() step             { return step{call: c} }

// so says who holds the lock behind the call, and who waits.
func (s step) so(holder int, queue ...int) step {
	s.holder, s.queue = holder, queue
	return s
}

func fresh(t *testing.T) *locks.Lock {
	t.Helper()
	l := locks.New()
	if l == nil {
		t.Fatal("New() = nil")
	}
	return l
}

// play makes the calls on a new lock, and looks at it behind each of them, twice, for looking changes nothing.
func play(t *testing.T, steps ...step) *locks.Lock {
	t.Helper()
	l := fresh(t)
	for i, s := range steps {
		if got := s.on(l); got != s.want {
			t.Fatalf("step %d: %v answers %v, want %v", i, s.call, got, s.want)
		}
		for range 2 {
			wantState(t, l, s.holder, s.queue)
		}
	}
	return l
}

func wantState(t *testing.T, l *locks.Lock, holder int, queue []int) {
	t.Helper()
	if h, q := l.Holder(), l.Queue(); h != holder || !slices.Equal(q, queue) {
		t.Fatalf("Holder() = %d, Queue() = %v, want %d, %v", h, q, holder, queue)
	}
}

// wantRound lets each that has the lock let it go, until nobody has it, and wants them to be these.
func wantRound(t *testing.T, l *locks.Lock, envs ...int) {
	t.Helper()
	for i, env := range envs {
		next := nobody
		if i+1 < len(envs) {
			next = envs[i+1]
		}
		if h := l.Holder(); h != env {
			t.Fatalf("%d has it, want %d", h, env)
		}
		if n, e := l.Leave(env); n != next || e != api.OK {
			t.Fatalf("Leave(%d) = %d, %v, want %d", env, n, e, next)
		}
	}
	wantState(t, l, nobody, nil)
}

// below is numbers below 0, of whom none may have the lock.
func below() []int {
	return []int{-1, -2, -3, -12, -1 << 31, -1<<31 - 1, -1 << 32, 3 - 1<<32, math.MinInt + 3, math.MinInt + 1, math.MinInt}
}

// great is numbers past the last environment, who may have it all the same.
func great() []int {
	return []int{api.MaxEnvs - 1, api.MaxEnvs, api.MaxEnvs + 1, 63, 64, 255, 256, 1<<31 - 1, 1 << 31, 1<<32 - 1, 1 << 32, 1<<32 + 1, 1 << 40, math.MaxInt - 1, math.MaxInt}
}

// upTo is 0, 1, .., n - 1.
func upTo(n int) []int {
	var l []int
	for i := range n {
		l = append(l, i)
	}
	return l
}
