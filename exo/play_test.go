package exo_test

import (
	"math"
	"slices"
	"testing"

	"janus/api"
	"janus/exo"
)

const (
	r       = api.RightRead
	w       = api.RightWrite
	g       = api.RightGrant
	all     = r | w | g
	lastEnv = api.MaxEnvs - 1
	top     = math.MaxUint64
)

// words is 32 words that begin with v, no two of them alike.
func words(v uint64) []uint64 {
	l := make([]uint64, api.BlockWords)
	for i := range l {
		l[i] = v + uint64(i)<<32
	}
	return l
}

// zeros is what a frame or a block has that nothing was written to.
func zeros() []uint64 { return make([]uint64, api.BlockWords) }

// with is 32 words 0, but for one.
func with(word int, v uint64) []uint64 {
	l := zeros()
	l[word] = v
	return l
}

// call is a raw call, and whose it is.
type call struct {
	env   int
	words []uint64
}

func raw(env int, words ...uint64) call { return call{env, words} }

func alloc(env int) call                                { return raw(env, 0) }
func grant(env int, slot, to, rights uint64) call       { return raw(env, 1, slot, to, rights) }
func free(env int, slot uint64) call                    { return raw(env, 2, slot) }
func revoke(env int, slot uint64) call                  { return raw(env, 3, slot) }
func mapRead(env int, page, slot uint64) call           { return raw(env, 4, page, slot, 0) }
func mapWrite(env int, page, slot uint64) call          { return raw(env, 4, page, slot, 1) }
func unmap(env int, page uint64) call                   { return raw(env, 5, page) }
func load(env int, addr uint64) call                    { return raw(env, 6, addr) }
func store(env int, addr, v uint64) call                { return raw(env, 7, addr, v) }
func copied(env int, to, from uint64) call              { return raw(env, 8, to, from) }
func read(env int, slot, word uint64) call              { return raw(env, 9, slot, word) }
func write(env int, slot, word, v uint64) call          { return raw(env, 10, slot, word, v) }
func send(env int, to uint64, v ...uint64) call         { return raw(env, append([]uint64{11, to}, v...)...) }
func recv(env int) call                                 { return raw(env, 12) }
func allocBlocks(env int, first, n uint64) call         { return raw(env, 13, first, n) }
func grantBlocks(env int, slot, to, rights uint64) call { return raw(env, 14, slot, to, rights) }
func revokeBlocks(env int, slot uint64) call            { return raw(env, 15, slot) }
func get(env int, slot, block uint64) call              { return raw(env, 16, slot, block) }
func put(env int, slot, block uint64, v []uint64) call {
	return raw(env, append([]uint64{17, slot, block}, v...)...)
}

// answer is what a call answers.
type answer struct {
	words []uint64
	e     api.Errno
}

func (x answer) same(y answer) bool { return slices.Equal(x.words, y.words) && x.e == y.e }

func (c call) on(k *exo.Kernel) answer {
	l, e := k.Raw(c.env, c.words)
	return answer{l, e}
}

// step is a call, and what it should answer.
type step struct {
	call
	want answer
}

func (c call) ok() step                 { return step{call: c} }
func (c call) is(words ...uint64) step  { return step{c, answer{words: words}} }
func (c call) fails(e api.Errno) step   { return step{c, answer{e: e}} }
func (c call) failsArg() step           { return c.fails(api.ErrArg) }
func join(lists ...[]step) (all []step) { return slices.Concat(lists...) }
func same(c call, n int) (l []call)     { return slices.Repeat([]call{c}, n) }
func (s step) isCall(calls ...uint64) bool {
	return len(s.words) > 0 && slices.Contains(calls, s.words[0])
}

// keeps says that the call should have changed nothing: it is refused, or it asks alone.
func (s step) keeps() bool { return s.want.e != api.OK || s.isCall(6, 9, 16) }

// size is of which machine a kernel is, and which environments live in it.
type size struct {
	frames, blocks int
	live           []int
}

// usual has environments at both ends that live, and between them ones that do not.
func usual() size { return size{4, 8, []int{0, 1, 2, 3, lastEnv}} }

func fresh(t *testing.T, s size) *exo.Kernel {
	t.Helper()
	k := exo.New(s.frames, s.blocks)
	if k == nil {
		t.Fatalf("New(%d, %d) = nil", s.frames, s.blocks)
	}
	for _, env := range s.live {
		if e := k.Create(env); e != api.OK {
			t.Fatalf("Create(%d) = %d", env, e)
		}
	}
	return k
}

// play makes the calls on a new kernel; those that keep all as it was must be told by nothing, neither at once nor later.
func play(t *testing.T, s size, steps ...step) *exo.Kernel {
	t.Helper()
	k := fresh(t, s)
	for i, x := range steps {
		was := look(k, s)
		wantAnswer(t, k, x)
		if x.keeps() {
			wantSame(t, x.call, look(k, s), was)
		}
		if t.Failed() {
			t.Fatalf("that was step %d", i)
		}
	}
	if slices.ContainsFunc(steps, step.keeps) {
		wantSameLater(t, s, steps)
	}
	return k
}

func wantAnswer(t *testing.T, k *exo.Kernel, s step) {
	t.Helper()
	if got := s.on(k); !got.same(s.want) {
		t.Errorf("%v answers %v, want %v", s.call, got, s.want)
	}
}

func again(t *testing.T, s size, steps []step) *exo.Kernel {
	t.Helper()
	k := fresh(t, s)
	for _, x := range steps {
		x.on(k)
	}
	return k
}

// wantSameLater asks that the kernel with the calls that change nothing can't be told from one without them, behind rows of calls that tell what Sees does not.
func wantSameLater(t *testing.T, s size, steps []step) {
	t.Helper()
	did := slices.DeleteFunc(slices.Clone(steps), step.keeps)
	for _, calls := range later(s) {
		a, b := again(t, s, steps), again(t, s, did)
		for _, c := range calls {
			if got, want := c.on(a), c.on(b); !got.same(want) {
				t.Fatalf("behind what keeps all as it was, %v answers %v, want %v", c, got, want)
			}
		}
		wantSame(t, calls[0], look(a, s), look(b, s))
	}
}

// later is rows of calls that tell what was made of what, who sent which words, and which slots, frames and blocks are next.
func later(s size) [][]call {
	var uses []call
	var rows [][]call
	for _, env := range s.live {
		uses = append(uses, same(recv(env), api.MaxQueue+1)...)
		uses = append(uses, send(env, uint64(env)), alloc(env))
		for block := range s.blocks {
			uses = append(uses, allocBlocks(env, uint64(block), 1))
		}
		for slot := uint64(1); slot <= 3; slot++ {
			rows = append(rows, []call{revoke(env, slot), revokeBlocks(env, slot)})
		}
	}
	return append(rows, uses)
}

// sight is what was asked for, of which thing, and what was to be seen.
type sight struct {
	what  string
	at    int
	words []uint64
}

// look is all that can be seen from outside.
func look(k *exo.Kernel, s size) []sight {
	var l []sight
	for env := -1; env <= api.MaxEnvs; env++ {
		l = append(l, sight{"Sees", env, k.Sees(env)})
	}
	for frame := -1; frame <= s.frames; frame++ {
		l = append(l, sight{"Frame", frame, k.Frame(frame)})
	}
	for block := -1; block <= s.blocks; block++ {
		l = append(l, sight{"Block", block, k.Block(block)})
	}
	return l
}

func wantSame(t *testing.T, behind call, got, want []sight) {
	t.Helper()
	if len(got) != len(want) {
		t.Fatalf("%d sights, want %d", len(got), len(want))
	}
	for i, x := range got {
		if !slices.Equal(x.words, want[i].words) {
			t.Fatalf("behind %v: %s(%d) is %v, want %v", behind, x.what, x.at, x.words, want[i].words)
		}
	}
}

func wantWords(t *testing.T, what string, got, want []uint64) {
	t.Helper()
	if !slices.Equal(got, want) {
		t.Errorf("%s: %v, want %v", what, got, want)
	}
}

// seen is what an environment should see, told piece by piece.
type seen []uint64

func lives() seen { return seen{1} }

// and is new memory, so that several may begin with the same pieces.
func (s seen) and(l ...uint64) seen { return append(slices.Clip(s), l...) }

func (s seen) frame(slot, frame, rights uint64, words []uint64) seen {
	return s.and(slot, frame, rights).and(words...)
}

func (s seen) page(page, frame, writable uint64) seen { return s.and(page, frame, writable) }

func (s seen) extent(slot, first, rights uint64, blocks ...[]uint64) seen {
	return s.and(slot, first, uint64(len(blocks)), rights).and(slices.Concat(blocks...)...)
}

func (s seen) waits(n uint64) []uint64 { return s.and(n) }

func wantSees(t *testing.T, k *exo.Kernel, env int, want []uint64) {
	t.Helper()
	if got := k.Sees(env); !slices.Equal(got, want) {
		t.Errorf("Sees(%d) = %v, want %v", env, got, want)
	}
}

// noEnvs is numbers of which none is an environment's.
func noEnvs() []int {
	return []int{-1, api.MaxEnvs, api.MaxEnvs + 1, -1 << 40, 1 << 40, 1 << 32, 1<<32 + 1, math.MinInt, math.MinInt + 1, math.MaxInt}
}

// far is numbers far beyond both ends of all that is numbered.
func far() []int {
	return []int{-1 << 40, 1 << 40, -1 << 32, 1 << 32, 1<<32 + 1, math.MinInt, math.MinInt + 1, math.MaxInt - 1, math.MaxInt}
}
