package pipes_test

import (
	"fmt"
	"math"
	"slices"
	"testing"

	"janus/api"
	"janus/pipes"
)

const (
	most = api.MaxPipes
	size = api.PipeSize
)

// call is one call with its arguments.
type call struct {
	name  string
	id, n int
	s     string
}

func makes() call               { return call{name: "Make"} }
func put(id int, s string) call { return call{name: "Put", id: id, s: s} }
func take(id, n int) call       { return call{name: "Take", id: id, n: n} }
func length(id int) call        { return call{name: "Len", id: id} }
func drop(id int) call          { return call{name: "Drop", id: id} }
func encode() call              { return call{name: "Encode"} }

// String tells a long text by its front alone.
func (c call) String() string {
	return fmt.Sprintf("%s(%d, %d, %.30q)", c.name, c.id, c.n, c.s)
}

// answer is what a call answers, in the fields that it has a result for.
type answer struct {
	n     int
	s     string
	words []uint64
	e     api.Errno
}

func (a answer) String() string {
	return fmt.Sprintf("%d, %q, %v, %d", a.n, a.s, a.words, a.e)
}

func (a answer) same(b answer) bool {
	return a.n == b.n && a.s == b.s && slices.Equal(a.words, b.words) && a.e == b.e
}

// on makes the call.
func (c call) on(p *pipes.Pipes) (a answer) {
	switch c.name {
	case "Make":
		a.n, a.e = p.Make()
	case "Put":
		a.n = p.Put(c.id, c.s)
	case "Take":
		a.s = p.Take(c.id, c.n)
	case "Len":
		a.n = p.Len(c.id)
	case "Drop":
		a.e = p.Drop(c.id)
	case "Encode":
		a.words = p.Encode()
	}
	return a
}

// step is a call, and what it should answer.
type step struct {
	call
	want answer
}

func (c call) ok() step               { return step{call: c} }
func (c call) fails(e api.Errno) step { return step{c, answer{e: e}} }
func (c call) is(n int) step          { return step{c, answer{n: n}} }
func (c call) tells(s string) step    { return step{c, answer{s: s}} }
func (c call) words(w []uint64) step  { return step{c, answer{words: w}} }

func steps(l ...step) []step    { return l }
func joined(l ...[]step) []step { return slices.Concat(l...) }

// keeps says that the call should have changed nothing: it is refused, or it asks alone, or it moved no byte.
func (s step) keeps() bool {
	switch s.name {
	case "Make", "Drop":
		return s.want.e != api.OK
	case "Put":
		return s.want.n == 0
	case "Take":
		return s.want.s == ""
	}
	return true
}

func fresh(t *testing.T) *pipes.Pipes {
	t.Helper()
	p := pipes.New()
	if p == nil {
		t.Fatal("New() = nil")
	}
	return p
}

// play makes the calls on a new one; those that keep all as it was must not be told by a later call.
func play(t *testing.T, steps ...step) *pipes.Pipes {
	t.Helper()
	p := fresh(t)
	for i, s := range steps {
		if got := s.on(p); !got.same(s.want) {
			t.Fatalf("step %d: %v answers %v, want %v", i, s.call, got, s.want)
		}
		if s.keeps() {
			wantSame(t, s.call, again(t, steps[:i+1]), again(t, steps[:i]))
		}
	}
	return p
}

func again(t *testing.T, steps []step) *pipes.Pipes {
	t.Helper()
	p := fresh(t)
	for _, s := range steps {
		s.on(p)
	}
	return p
}

// looksAt is all that can be asked without a change.
func looksAt() []call {
	l := []call{encode()}
	for id := -1; id <= most; id++ {
		l = append(l, length(id))
	}
	return l
}

// usesUp is calls that take some of what is there, fill all, take all, drop all, and make all once more.
func usesUp() []call {
	var l []call
	for id := range most {
		l = append(l, take(id, 2), put(id, "fills it up"), length(id))
	}
	for range most + 1 {
		l = append(l, makes())
	}
	l = append(l, encode())
	for id := range most {
		l = append(l, put(id, "once more"), take(id, 3), take(id, size), length(id), drop(id))
	}
	l = append(l, encode())
	for id := range most + 1 {
		l = append(l, makes(), length(id), take(id, size))
	}
	return append(l, encode())
}

// wantSame asks both all that can be asked, and uses them up.
func wantSame(t *testing.T, behind call, p, q *pipes.Pipes) {
	t.Helper()
	for _, c := range append(looksAt(), usesUp()...) {
		if got, want := c.on(p), c.on(q); !got.same(want) {
			t.Fatalf("behind %v: %v answers %v, want %v", behind, c, got, want)
		}
	}
}

// noIds is numbers of which none is a pipe's, among them some that would be if half of their bits were lost.
func noIds() []int {
	return []int{-1, -2, -15, -16, -17, 16, 17, 31, 32, 64, 255, 256, 257, 1 << 16, 1<<16 + 1, 1 << 31, 1 << 32, 1<<32 + 1, 1<<32 - 1, -1 << 31, -1 << 32, -1<<32 + 1, 1 << 62, -1 << 62, math.MinInt, math.MinInt + 1, math.MaxInt - 1, math.MaxInt}
}

// allIds is the numbers of all pipes that may be, rising.
func allIds() []int {
	var l []int
	for id := range most {
		l = append(l, id)
	}
	return l
}

// made makes the first n.
func made(n int) []step {
	var l []step
	for id := range n {
		l = append(l, makes().is(id))
	}
	return l
}

// others is the first n numbers but for that one.
func others(n, id int) []int {
	return slices.DeleteFunc(allIds()[:n], func(i int) bool { return i == id })
}
