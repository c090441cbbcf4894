package exoipc_test

import (
	"math"
	"slices"
	"testing"

	"janus/api"
	"janus/exoipc"
)

const lastEnv = api.MaxEnvs - 1

// call is one call with its arguments; env is of whom it asks, or to whom Send sends.
type call struct {
	name      string
	from, env int
	words     []uint64
}

func send(from, to int, words ...uint64) call {
	return call{name: "Send", from: from, env: to, words: words}
}
func recv(env int) call    { return call{name: "Recv", env: env} }
func waiting(env int) call { return call{name: "Waiting", env: env} }
func from(env int) call    { return call{name: "From", env: env} }
func gone(env int) call    { return call{name: "Gone", env: env} }

// answer is what a call answers, in the fields that it has a result for.
type answer struct {
	n     int
	list  []int
	words []uint64
	has   bool
	e     api.Errno
}

func (x answer) same(y answer) bool {
	return x.n == y.n && slices.Equal(x.list, y.list) && slices.Equal(x.words, y.words) && x.has == y.has && x.e == y.e
}

// on makes the call.
func (c call) on(p *exoipc.Ipc) (x answer) {
	switch c.name {
	case "Send":
		x.e = p.Send(c.from, c.env, c.words)
	case "Recv":
		x.n, x.words, x.has = p.Recv(c.env)
	case "Waiting":
		x.n = p.Waiting(c.env)
	case "From":
		x.list = p.From(c.env)
	case "Gone":
		p.Gone(c.env)
	}
	return x
}

// step is a call, and what it should answer.
type step struct {
	call
	want answer
}

func (c call) ok() step               { return step{call: c} }
func (c call) fails(e api.Errno) step { return step{c, answer{e: e}} }
func (c call) is(n int) step          { return step{c, answer{n: n}} }
func (c call) are(l ...int) step      { return step{c, answer{list: l}} }
func (c call) none() step             { return step{call: c} }
func (c call) got(from int, words ...uint64) step {
	return step{c, answer{n: from, words: words, has: true}}
}

// keeps says that the call should have changed nothing: it is refused, or it asks alone, or nothing waits, or what is gone is no environment.
func (s step) keeps() bool {
	switch s.name {
	case "Waiting", "From":
		return true
	case "Recv":
		return !s.want.has
	case "Gone":
		return s.env < 0 || s.env > lastEnv
	}
	return s.want.e != api.OK
}

func fresh(t *testing.T) *exoipc.Ipc {
	t.Helper()
	p := exoipc.New()
	if p == nil {
		t.Fatal("New() = nil")
	}
	return p
}

// play makes the calls on a new Ipc; those that keep all as it was must not be told by a later call.
func play(t *testing.T, steps ...step) *exoipc.Ipc {
	t.Helper()
	p := fresh(t)
	for i, s := range steps {
		if got := s.on(p); !got.same(s.want) {
			t.Fatalf("step %d: %v answers %v, want %v", i, s.call, got, s.want)
		}
		if s.keeps() {
			wantSame(t, s.call, again(t, steps[:i+1]), again(t, steps[:i]))
		}
	}
	return p
}

func again(t *testing.T, steps []step) *exoipc.Ipc {
	t.Helper()
	p := fresh(t)
	for _, s := range steps {
		s.on(p)
	}
	return p
}

// wantSame asks both all that can be asked, and uses them up: all rows are filled, and then taken until nothing waits.
func wantSame(t *testing.T, behind call, p, q *exoipc.Ipc) {
	t.Helper()
	var asks []call
	for env := -2; env <= api.MaxEnvs+1; env++ {
		asks = append(asks, waiting(env), from(env))
	}
	for env := range api.MaxEnvs {
		for i := range api.MaxQueue + 1 {
			asks = append(asks, send(5, env, 700, uint64(i)))
		}
		asks = append(asks, waiting(env), from(env))
		for range api.MaxQueue + 1 {
			asks = append(asks, recv(env))
		}
	}
	for _, c := range asks {
		if got, want := c.on(p), c.on(q); !got.same(want) {
			t.Fatalf("behind %v: %v answers %v, want %v", behind, c, got, want)
		}
	}
}

// noEnvs is numbers of which none is an environment's.
func noEnvs() []int {
	return []int{-1, -2, api.MaxEnvs, api.MaxEnvs + 1, -api.MaxEnvs, 2 * api.MaxEnvs, -1 << 40, 1 << 40, 1 << 32, 1<<32 + 3, 1<<32 - 1, math.MinInt, math.MinInt + 3, math.MaxInt - 1, math.MaxInt}
}

// rows is words to send: none, one, and up to as many as may be, the least and the greatest words among them.
func rows() [][]uint64 {
	return [][]uint64{
		nil, {}, {0}, {7}, {math.MaxUint64}, {0, 0}, {0, math.MaxUint64}, {1 << 63, 1<<63 - 1, 1 << 32},
		{1, 2, 3, 4, 5, 6, 7},
		{1, 2, 3, 4, 5, 6, 7, 8},
		slices.Repeat([]uint64{0}, api.MaxMessage),
		slices.Repeat([]uint64{math.MaxUint64}, api.MaxMessage),
	}
}

// tooMany is words of which each row is longer than a message may be.
func tooMany() [][]uint64 {
	var l [][]uint64
	for _, n := range []int{api.MaxMessage + 1, api.MaxMessage + 2, 2 * api.MaxMessage, 255, 256, 1000, 1 << 16, 1<<16 + 1} {
		l = append(l, make([]uint64, n))
	}
	return l
}
