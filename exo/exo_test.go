package exo_test

import (
	"math"
	"testing"

	"janus/api"
	"janus/exo"
)

func TestExamples(t *testing.T) {
	play(t, size{4, 8, []int{1}},
		alloc(1).is(1),
		write(1, 1, 3, 9).ok(),
		read(1, 1, 3).is(9),
		raw(1, 99).failsArg(),
		alloc(2).failsArg(),
	)
}

// 13.1: a kernel is there where such a memory and such a disk are.
func TestNew(t *testing.T) {
	may := map[int]bool{1: true, 2: true, api.MaxFrames - 1: true, api.MaxFrames: true}
	numbers := append(far(), -1, 0, 1, 2, api.MaxFrames-1, api.MaxFrames, api.MaxFrames+1, -api.MaxFrames)
	for _, frames := range numbers {
		for _, blocks := range numbers {
			k := exo.New(frames, blocks)
			if (k != nil) != (may[frames] && may[blocks]) {
				t.Errorf("New(%d, %d) is nil: %v", frames, blocks, k == nil)
			}
			if k != nil {
				wantNew(t, k, frames, blocks)
			}
		}
	}
}

// wantNew asks for what a new kernel has: no environment, and all words 0.
func wantNew(t *testing.T, k *exo.Kernel, frames, blocks int) {
	t.Helper()
	for env := range api.MaxEnvs {
		wantSees(t, k, env, nil)
		wantAnswer(t, k, alloc(env).failsArg())
	}
	for _, frame := range []int{0, frames - 1} {
		wantWords(t, "a new frame", k.Frame(frame), zeros())
	}
	for _, block := range []int{0, blocks - 1} {
		wantWords(t, "a new block", k.Block(block), zeros())
	}
	wantWords(t, "no frame", k.Frame(frames), nil)
	wantWords(t, "no block", k.Block(blocks), nil)
}

// The two numbers are not taken for one another.
func TestNewOfUnlikeSizes(t *testing.T) {
	for _, s := range []size{{1, 3, []int{1}}, {3, 1, []int{1}}, {api.MaxFrames, 1, []int{1}}, {1, api.MaxBlocks, []int{1}}} {
		k := fresh(t, s)
		for frame := range min(s.frames, api.MaxCaps) {
			wantAnswer(t, k, alloc(1).is(uint64(frame+1)))
		}
		if s.frames < api.MaxCaps {
			wantAnswer(t, k, alloc(1).fails(api.ErrNone))
		}
		wantAnswer(t, k, allocBlocks(1, 0, uint64(s.blocks)+1).failsArg())
		wantAnswer(t, k, allocBlocks(1, 0, uint64(s.blocks)).is(1))
		wantAnswer(t, k, get(1, 1, uint64(s.blocks-1)).is(zeros()...))
		wantAnswer(t, k, get(1, 1, uint64(s.blocks)).fails(api.ErrCap))
	}
}

// 13.1: Create is chapter 10's.
func TestCreate(t *testing.T) {
	for env := range api.MaxEnvs {
		k := exo.New(2, 2)
		for other := range api.MaxEnvs {
			wantAnswer(t, k, alloc(other).failsArg())
		}
		if e := k.Create(env); e != api.OK {
			t.Errorf("Create(%d) = %d", env, e)
		}
		wantAnswer(t, k, alloc(env).is(1))
		for other := range api.MaxEnvs {
			if other != env {
				wantAnswer(t, k, alloc(other).failsArg())
				wantSees(t, k, other, nil)
			}
		}
	}
	k := exo.New(api.MaxEnvs, 1)
	for env := range api.MaxEnvs {
		if e := k.Create(env); e != api.OK {
			t.Errorf("Create(%d) = %d", env, e)
		}
	}
	for env := range api.MaxEnvs {
		wantSees(t, k, env, lives().waits(0))
		wantAnswer(t, k, alloc(env).is(1))
		wantSees(t, k, env, lives().frame(1, uint64(env), all, zeros()).waits(0))
	}
}

func TestCreateOfWhatIsNoEnvironment(t *testing.T) {
	k := fresh(t, usual())
	was := look(k, usual())
	for _, env := range append(noEnvs(), far()...) {
		if e := k.Create(env); e != api.ErrArg {
			t.Errorf("Create(%d) = %d", env, e)
		}
		wantAnswer(t, k, alloc(env).failsArg())
		wantSees(t, k, env, nil)
	}
	wantSame(t, call{}, look(k, usual()), was)
}

// One that lives is left as it is.
func TestCreateOfOneThatLives(t *testing.T) {
	k := played(t)
	was := look(k, usual())
	for _, env := range usual().live {
		if e := k.Create(env); e != api.ErrFull {
			t.Errorf("Create(%d) = %d", env, e)
		}
	}
	wantSame(t, call{}, look(k, usual()), was)
	for _, calls := range later(usual()) {
		a, b := played(t), played(t)
		for _, env := range usual().live {
			a.Create(env)
		}
		for _, c := range calls {
			if got, want := c.on(a), c.on(b); !got.same(want) {
				t.Errorf("behind Create of one that lives, %v answers %v, want %v", c, got, want)
			}
		}
	}
}

// A kernel keeps nothing that another one has.
func TestKernelsApart(t *testing.T) {
	a, b := fresh(t, usual()), fresh(t, usual())
	was := look(b, usual())
	for _, s := range beginning() {
		wantAnswer(t, a, s)
	}
	a.Create(5)
	wantSame(t, call{}, look(b, usual()), was)
	for _, s := range beginning() {
		wantAnswer(t, b, s)
	}
	wantAnswer(t, b, alloc(5).failsArg())
}

// anyCalls is calls of all numbers and lengths, of these words.
func anyCalls(env int, v ...uint64) []call {
	l := []call{{env: env}}
	for _, n := range []uint64{0, 1, 2, 3, 4, 5, 6, 7, 8, 9, 10, 11, 12, 13, 14, 15, 16, 17, 18, 99, 1 << 32, top} {
		row := []uint64{n}
		for i := range 36 {
			l = append(l, raw(env, row[:len(row):len(row)]...))
			row = append(row, v[i%len(v)])
		}
	}
	return l
}

func TestNil(t *testing.T) {
	var k *exo.Kernel
	for _, n := range append(noEnvs(), 0, 1, 3, lastEnv, 31, 1023) {
		if e := k.Create(n); e != api.ErrArg {
			t.Errorf("on nil Create(%d) = %d", n, e)
		}
		for _, c := range anyCalls(n, 1, 0, 2) {
			if got := c.on(k); !got.same(answer{e: api.ErrArg}) {
				t.Errorf("on nil %v answers %v", c, got)
			}
		}
		wantSees(t, k, n, nil)
		wantWords(t, "Frame on nil", k.Frame(n), nil)
		wantWords(t, "Block on nil", k.Block(n), nil)
	}
}

// R1: no call panics, on a kernel that New did not make, either; in that one no environment lives.
func TestWhatNewDidNotMake(t *testing.T) {
	k := &exo.Kernel{}
	for _, n := range append(noEnvs(), 0, 1, 3, lastEnv, 31, 1023) {
		k.Create(n)
		for _, c := range anyCalls(n, 1, 0, 2) {
			if got := c.on(k); !got.same(answer{e: api.ErrArg}) {
				t.Errorf("%v answers %v", c, got)
			}
		}
		wantSees(t, k, n, nil)
		wantWords(t, "Frame", k.Frame(n), nil)
		wantWords(t, "Block", k.Block(n), nil)
	}
}

// R1: no call panics whatever it is given; R2: beside an error there is nothing else.
func TestAnyWords(t *testing.T) {
	values := []uint64{0, 1, 2, 3, 4, 11, 12, 31, 32, 64, 65, 127, 128, 1<<31 - 1, 1 << 31, 1 << 63, top}
	k := played(t)
	for _, env := range []int{math.MinInt, -1, 0, 1, 2, 5, lastEnv, api.MaxEnvs, math.MaxInt} {
		for _, a := range values {
			for _, b := range values {
				for _, c := range anyCalls(env, a, b, 1) {
					if got := c.on(k); got.e != api.OK && len(got.words) > 0 {
						t.Errorf("%v answers %v", c, got)
					}
				}
			}
		}
	}
}
