package exoenv_test

import (
	"math"
	"slices"
	"testing"

	"janus/api"
	"janus/exoenv"
)

const (
	nobody  = -1
	lastEnv = api.MaxEnvs - 1
	most    = 64
)

// call is one call with its arguments; n is a slice, or what Pick is asked.
type call struct {
	name   string
	n, env int
	addr   uint64
}

func create(env int) call             { return call{name: "Create", env: env} }
func kill(env int) call               { return call{name: "Kill", env: env} }
func live() call                      { return call{name: "Live"} }
func lives(env int) call              { return call{name: "Is", env: env} }
func slice(slot, env int) call        { return call{name: "Slice", n: slot, env: env} }
func vector() call                    { return call{name: "Vector"} }
func pick(n int) call                 { return call{name: "Pick", n: n} }
func fault(env int, addr uint64) call { return call{name: "Fault", env: env, addr: addr} }
func upcall(env int) call             { return call{name: "Upcall", env: env} }

// answer is what a call answers, in the fields that it has a result for.
type answer struct {
	n    int
	list []int
	addr uint64
	has  bool
	e    api.Errno
}

func (x answer) same(y answer) bool {
	return x.n == y.n && slices.Equal(x.list, y.list) && x.addr == y.addr && x.has == y.has && x.e == y.e
}

// on makes the call.
func (c call) on(e *exoenv.Envs) (x answer) {
	switch c.name {
	case "Create":
		x.e = e.Create(c.env)
	case "Kill":
		x.e = e.Kill(c.env)
	case "Live":
		x.list = e.Live()
	case "Is":
		x.has = e.Is(c.env)
	case "Slice":
		x.e = e.Slice(c.n, c.env)
	case "Vector":
		x.list = e.Vector()
	case "Pick":
		x.n = e.Pick(c.n)
	case "Fault":
		x.e = e.Fault(c.env, c.addr)
	case "Upcall":
		x.addr, x.has = e.Upcall(c.env)
	}
	return x
}

// step is a call, and what it should answer.
type step struct {
	call
	want answer
}

func (c call) ok() step               { return step{call: c} }
func (c call) fails(e api.Errno) step { return step{c, answer{e: e}} }
func (c call) is(n int) step          { return step{c, answer{n: n}} }
func (c call) are(l ...int) step      { return step{c, answer{list: l}} }
func (c call) yes() step              { return step{c, answer{has: true}} }
func (c call) no() step               { return step{call: c} }
func (c call) told(addr uint64) step  { return step{c, answer{addr: addr, has: true}} }
func (c call) none() step             { return step{call: c} }

// keeps says that the call should have changed nothing: it is refused, or it asks alone, or no upcall waits.
func (s step) keeps() bool {
	switch s.name {
	case "Live", "Is", "Vector", "Pick":
		return true
	case "Upcall":
		return !s.want.has
	}
	return s.want.e != api.OK
}

func fresh(t *testing.T, n int) *exoenv.Envs {
	t.Helper()
	e := exoenv.New(n)
	if e == nil {
		t.Fatalf("New(%d) = nil", n)
	}
	return e
}

// play makes the calls on a new vector of n slices; behind each of them a slice must be nobody's or of one that lives, and those that keep all as it was must not be told by a later call.
func play(t *testing.T, n int, steps ...step) *exoenv.Envs {
	t.Helper()
	e := fresh(t, n)
	for i, s := range steps {
		if got := s.on(e); !got.same(s.want) {
			t.Fatalf("step %d: %v answers %v, want %v", i, s.call, got, s.want)
		}
		wantOwned(t, s.call, e)
		if s.keeps() {
			wantSame(t, s.call, again(t, n, steps[:i+1]), again(t, n, steps[:i]))
		}
	}
	return e
}

func again(t *testing.T, n int, steps []step) *exoenv.Envs {
	t.Helper()
	e := fresh(t, n)
	for _, s := range steps {
		s.on(e)
	}
	return e
}

// wantOwned asks for 10.3.
func wantOwned(t *testing.T, behind call, e *exoenv.Envs) {
	t.Helper()
	for slot, env := range e.Vector() {
		if env != nobody && !e.Is(env) {
			t.Fatalf("behind %v: slice %d is of %d, which does not live", behind, slot, env)
		}
	}
}

// wantSame asks both all that can be asked, and uses them up: what waits is told, and all live at the end.
func wantSame(t *testing.T, behind call, e, f *exoenv.Envs) {
	t.Helper()
	var asks []call
	for n := -2 * most; n <= 2*most; n++ {
		asks = append(asks, pick(n))
	}
	for env := -2; env <= api.MaxEnvs+1; env++ {
		asks = append(asks, lives(env), upcall(env), upcall(env))
	}
	for env := range api.MaxEnvs {
		asks = append(asks, create(env), vector(), upcall(env))
	}
	for _, c := range append([]call{live(), vector()}, asks...) {
		if got, want := c.on(e), c.on(f); !got.same(want) {
			t.Fatalf("behind %v: %v answers %v, want %v", behind, c, got, want)
		}
	}
}

// noEnvs is numbers of which none is an environment's, nor -1.
func noEnvs() []int {
	return []int{-2, api.MaxEnvs, api.MaxEnvs + 1, -api.MaxEnvs, -1 << 40, 1 << 40, 1 << 32, 1<<32 + 3, 1<<32 - 1, math.MinInt, math.MinInt + 3, math.MaxInt}
}

// noSlots is numbers of which none is a slice's, where there are n.
func noSlots(n int) []int {
	return []int{-1, n, n + 1, -n, -2, -1 << 40, 1 << 40, 1 << 32, 1<<32 + 1, math.MinInt, math.MaxInt}
}

// addrs is addresses to wait: all that an address can be may wait.
func addrs() []uint64 {
	return []uint64{0, 1, api.MaxWords - 1, api.MaxWords, 1 << 32, 1 << 63, math.MaxUint64 - 1, math.MaxUint64}
}

// owners is a vector of n slices that are all env's.
func owners(n, env int) []int {
	return slices.Repeat([]int{env}, n)
}
