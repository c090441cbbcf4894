package exomem_test

import (
	"math"
	"slices"
	"testing"

	"janus/api"
	"janus/exomem"
)

const (
	r   = api.RightRead
	w   = api.RightWrite
	g   = api.RightGrant
	all = r | w | g
)

// call is one call with its arguments; what the others of them mean hangs on the name.
type call struct {
	name         string
	env, a, b, c int
	writable     bool
	addr, v      uint64
}

func alloc(env int) call { return call{name: "Alloc", env: env} }
func grant(env, slot, to, rights int) call {
	return call{name: "Grant", env: env, a: slot, b: to, c: rights}
}
func free(env, slot int) call   { return call{name: "Free", env: env, a: slot} }
func revoke(env, slot int) call { return call{name: "Revoke", env: env, a: slot} }
func mapRead(env, page, slot int) call {
	return call{name: "Map", env: env, a: page, b: slot}
}
func mapWrite(env, page, slot int) call {
	return call{name: "Map", env: env, a: page, b: slot, writable: true}
}
func unmap(env, page int) call           { return call{name: "Unmap", env: env, a: page} }
func load(env int, addr uint64) call     { return call{name: "Load", env: env, addr: addr} }
func store(env int, addr, v uint64) call { return call{name: "Store", env: env, addr: addr, v: v} }
func copied(env, to, from int) call      { return call{name: "Copy", env: env, a: to, b: from} }
func read(env, slot, word int) call      { return call{name: "Read", env: env, a: slot, b: word} }
func write(env, slot, word int, v uint64) call {
	return call{name: "Write", env: env, a: slot, b: word, v: v}
}
func gone(env int) call          { return call{name: "Gone", env: env} }
func left() call                 { return call{name: "Left"} }
func refs(env, slot int) call    { return call{name: "Refs", env: env, a: slot} }
func at(env, page int) call      { return call{name: "Page", env: env, a: page} }
func slotOf(env, frame int) call { return call{name: "Slot", env: env, a: frame} }

// answer is what a call answers, in the fields that it has a result for.
type answer struct {
	n    int
	word uint64
	page api.Page
	has  bool
	e    api.Errno
}

// on makes the call.
func (c call) on(k *exomem.Kernel) (x answer) {
	switch c.name {
	case "Alloc":
		x.n, x.e = k.Alloc(c.env)
	case "Grant":
		x.n, x.e = k.Grant(c.env, c.a, c.b, c.c)
	case "Free":
		x.e = k.Free(c.env, c.a)
	case "Revoke":
		x.e = k.Revoke(c.env, c.a)
	case "Map":
		x.e = k.Map(c.env, c.a, c.b, c.writable)
	case "Unmap":
		x.e = k.Unmap(c.env, c.a)
	case "Load":
		x.word, x.e = k.Load(c.env, c.addr)
	case "Store":
		x.e = k.Store(c.env, c.addr, c.v)
	case "Copy":
		x.e = k.Copy(c.env, c.a, c.b)
	case "Read":
		x.word, x.e = k.Read(c.env, c.a, c.b)
	case "Write":
		x.e = k.Write(c.env, c.a, c.b, c.v)
	case "Gone":
		k.Gone(c.env)
	case "Left":
		x.n = k.Left()
	case "Refs":
		x.n = k.Refs(c.env, c.a)
	case "Page":
		x.page, x.has = k.Page(c.env, c.a)
	case "Slot":
		x.n = k.Slot(c.env, c.a)
	}
	return x
}

// step is a call, and what it should answer.
type step struct {
	call
	want answer
}

func (c call) ok() step               { return step{call: c} }
func (c call) is(n int) step          { return step{c, answer{n: n}} }
func (c call) word(v uint64) step     { return step{c, answer{word: v}} }
func (c call) fails(e api.Errno) step { return step{c, answer{e: e}} }
func (c call) none() step             { return step{call: c} }
func (c call) readOnly(frame int) step {
	return step{c, answer{page: api.Page{Frame: frame}, has: true}}
}
func (c call) bothWays(frame int) step {
	return step{c, answer{page: api.Page{Frame: frame, Writable: true}, has: true}}
}

func fresh(t *testing.T, frames int) *exomem.Kernel {
	t.Helper()
	k := exomem.New(frames)
	if k == nil {
		t.Fatalf("New(%d) = nil", frames)
	}
	return k
}

// play makes the calls on a new kernel; those that should be refused must change nothing that a later call could tell.
func play(t *testing.T, frames int, steps ...step) *exomem.Kernel {
	t.Helper()
	k := fresh(t, frames)
	refused := false
	for i, s := range steps {
		var was []told
		if s.want.e != api.OK {
			was, refused = look(frames, doer(k)), true
		}
		if got := s.on(k); got != s.want {
			t.Fatalf("step %d: %v answers %v, want %v", i, s.call, got, s.want)
		}
		if s.want.e != api.OK {
			wantSame(t, s.call, look(frames, doer(k)), was)
		}
	}
	if refused {
		wantSameLater(t, frames, steps)
	}
	return k
}

// wantSameLater asks that no later Revoke, Alloc or Grant can tell the kernel with the refused calls from one without them.
func wantSameLater(t *testing.T, frames int, steps []step) {
	t.Helper()
	done := slices.DeleteFunc(slices.Clone(steps), func(s step) bool { return s.want.e != api.OK })
	for _, c := range later(again(t, frames, done)) {
		a, b := again(t, frames, steps), again(t, frames, done)
		if got, want := c.on(a), c.on(b); got != want {
			t.Errorf("behind what was refused, %v answers %v, want %v", c, got, want)
		}
		wantSame(t, c, look(frames, doer(a)), look(frames, doer(b)))
	}
}

func again(t *testing.T, frames int, steps []step) *exomem.Kernel {
	t.Helper()
	k := fresh(t, frames)
	for _, s := range steps {
		s.on(k)
	}
	return k
}

// later is the calls that tell what the others do not: what was made of what, which frame and which slot is next.
func later(k *exomem.Kernel) []call {
	var l []call
	for env := range api.MaxEnvs {
		l = append(l, alloc(env))
		for slot := 1; slot <= api.MaxCaps; slot++ {
			if k.Refs(env, slot) > 0 {
				l = append(l, revoke(env, slot))
			}
		}
	}
	return l
}

// told is a call that changes nothing, and what it answered.
type told struct {
	call
	answer
}

func doer(k *exomem.Kernel) func(call) answer {
	return func(c call) answer { return c.on(k) }
}

// look asks all that can be asked without a change: the rights in a slot by calls that are refused for another reason, if it has them.
func look(frames int, do func(call) answer) []told {
	l := []told{{left(), do(left())}}
	ask := func(c call) answer {
		l = append(l, told{c, do(c)})
		return l[len(l)-1].answer
	}
	for env := range api.MaxEnvs {
		for slot := 1; slot <= api.MaxCaps; slot++ {
			if ask(refs(env, slot)).n > 0 {
				lookInto(env, slot, ask)
			}
		}
		for frame := range frames {
			ask(slotOf(env, frame))
		}
		for page := range api.MaxPages {
			if ask(at(env, page)).has {
				for addr := range uint64(api.PageWords) {
					ask(load(env, uint64(page)*api.PageWords+addr))
				}
			}
		}
	}
	return l
}

func lookInto(env, slot int, ask func(call) answer) {
	ask(write(env, slot, -1, 0))
	for rights := 1; rights <= all; rights++ {
		ask(grant(env, slot, -1, rights))
	}
	for word := -1; word < api.PageWords; word++ {
		ask(read(env, slot, word))
	}
}

func wantSame(t *testing.T, behind call, got, want []told) {
	t.Helper()
	for i := range min(len(got), len(want)) {
		if got[i] != want[i] {
			t.Fatalf("behind %v: %v answers %v, want %v", behind, got[i].call, got[i].answer, want[i].answer)
		}
	}
	if len(got) != len(want) {
		t.Fatalf("behind %v: %d answers, want %d", behind, len(got), len(want))
	}
}

// noEnvs is numbers of which none is an environment's.
func noEnvs() []int {
	return []int{-1, api.MaxEnvs, -1 << 40, 1 << 40, 1 << 32, math.MinInt, math.MaxInt}
}

func noSlots() []int {
	return []int{0, -1, api.MaxCaps + 1, -1 << 40, 1 << 40, 1<<32 + 1, math.MinInt, math.MaxInt}
}

func noPages() []int {
	return []int{-1, api.MaxPages, -1 << 40, 1 << 40, 1 << 32, math.MinInt, math.MaxInt}
}

func noWords() []int {
	return []int{-1, api.PageWords, -1 << 40, 1 << 40, 1 << 32, math.MinInt, math.MaxInt}
}

func noRights() []int {
	return []int{0, -1, all + 1, -8, 1<<32 + 1, math.MinInt, math.MaxInt}
}

func noAddrs() []uint64 {
	return []uint64{api.MaxWords, api.MaxWords + 1, 1 << 32, 1<<63 + 1, math.MaxUint64 - 31, math.MaxUint64}
}
