package exodisk_test

import (
	"math"
	"slices"
	"testing"

	"janus/api"
	"janus/exodisk"
)

const (
	r       = api.RightRead
	w       = api.RightWrite
	g       = api.RightGrant
	all     = r | w | g
	lastEnv = api.MaxEnvs - 1
)

// words is 32 words that begin with v, no two of them alike.
func words(v uint64) []uint64 {
	l := make([]uint64, api.BlockWords)
	for i := range l {
		l[i] = v + uint64(i)<<32
	}
	return l
}

// zeros is what a block has that was never put.
func zeros() []uint64 { return make([]uint64, api.BlockWords) }

// call is one call with its arguments; what a, b and c mean hangs on the name.
type call struct {
	name         string
	env, a, b, c int
	words        []uint64
}

func alloc(env, first, n int) call { return call{name: "Alloc", env: env, a: first, b: n} }
func grant(env, slot, to, rights int) call {
	return call{name: "Grant", env: env, a: slot, b: to, c: rights}
}
func revoke(env, slot int) call     { return call{name: "Revoke", env: env, a: slot} }
func get(env, slot, block int) call { return call{name: "Get", env: env, a: slot, b: block} }
func put(env, slot, block int, words []uint64) call {
	return call{name: "Put", env: env, a: slot, b: block, words: words}
}
func sync() call          { return call{name: "Sync"} }
func cached() call        { return call{name: "Cached"} }
func disk(block int) call { return call{name: "Disk", b: block} }
func gone(env int) call   { return call{name: "Gone", env: env} }

// view asks for a View, which the calls of it that follow are made on; without it they are made on a new one.
func view(env, slot int) call { return call{name: "View", env: env, a: slot} }
func viewGet(env, slot, block int) call {
	return call{name: "View.Get", env: env, a: slot, b: block}
}
func viewPut(env, slot, block int, words []uint64) call {
	return call{name: "View.Put", env: env, a: slot, b: block, words: words}
}

// answer is what a call answers, in the fields that it has a result for.
type answer struct {
	n     int
	list  []int
	words []uint64
	e     api.Errno
}

func (x answer) same(y answer) bool {
	return x.n == y.n && slices.Equal(x.list, y.list) && slices.Equal(x.words, y.words) && x.e == y.e
}

// place is whose slot it is, and which.
type place struct{ env, slot int }

// machine is a kernel, and the Views that were asked for.
type machine struct {
	*exodisk.Kernel
	views map[place]*exodisk.View
}

func fresh(t *testing.T, blocks int) *machine {
	t.Helper()
	k := exodisk.New(blocks)
	if k == nil {
		t.Fatalf("New(%d) = nil", blocks)
	}
	return &machine{k, map[place]*exodisk.View{}}
}

// store is the View of a slot that was asked for, or a new one; as a store, which it must be.
func (m *machine) store(env, slot int) api.Store {
	if v := m.views[place{env, slot}]; v != nil {
		return v
	}
	return m.Kernel.View(env, slot)
}

// on makes the call.
func (c call) on(m *machine) (x answer) {
	switch c.name {
	case "Alloc":
		x.n, x.e = m.Alloc(c.env, c.a, c.b)
	case "Grant":
		x.n, x.e = m.Grant(c.env, c.a, c.b, c.c)
	case "Revoke":
		x.e = m.Revoke(c.env, c.a)
	case "Get":
		x.words, x.e = m.Get(c.env, c.a, c.b)
	case "Put":
		x.e = m.Put(c.env, c.a, c.b, c.words)
	case "Sync":
		x.n = m.Sync()
	case "Cached":
		x.list = m.Cached()
	case "Disk":
		x.words = m.Disk(c.b)
	case "Gone":
		m.Gone(c.env)
	case "View":
		m.views[place{c.env, c.a}] = m.View(c.env, c.a)
	case "View.Get":
		x.words, x.e = m.store(c.env, c.a).Get(c.b)
	case "View.Put":
		x.e = m.store(c.env, c.a).Put(c.b, c.words)
	}
	return x
}

// step is a call, and what it should answer.
type step struct {
	call
	want answer
}

func (c call) ok() step               { return step{call: c} }
func (c call) is(n int) step          { return step{c, answer{n: n}} }
func (c call) are(l ...int) step      { return step{c, answer{list: l}} }
func (c call) has(l []uint64) step    { return step{c, answer{words: l}} }
func (c call) fails(e api.Errno) step { return step{c, answer{e: e}} }

// keeps says that the call should have changed nothing: it is refused, or it asks alone.
func (s step) keeps() bool {
	return s.want.e != api.OK || slices.Contains([]string{"Cached", "Disk", "View"}, s.name)
}

// play makes the calls on a new kernel; those that keep all as it was must not be told by a later call.
func play(t *testing.T, blocks int, steps ...step) *machine {
	t.Helper()
	m := fresh(t, blocks)
	for i, s := range steps {
		wantAnswer(t, m, s)
		if t.Failed() {
			t.Fatalf("that was step %d", i)
		}
	}
	if slices.ContainsFunc(steps, step.keeps) {
		wantSameLater(t, blocks, steps)
	}
	return m
}

func wantAnswer(t *testing.T, m *machine, s step) {
	t.Helper()
	if got := s.on(m); !got.same(s.want) {
		t.Errorf("%v answers %v, want %v", s.call, got, s.want)
	}
}

func again(t *testing.T, blocks int, steps []step) *machine {
	t.Helper()
	m := fresh(t, blocks)
	for _, s := range steps {
		s.on(m)
	}
	return m
}

// wantSameLater asks that the kernel with the calls that change nothing can't be told from one without them, neither at once nor behind a Revoke, which tells what was made of what.
func wantSameLater(t *testing.T, blocks int, steps []step) {
	t.Helper()
	did := slices.DeleteFunc(slices.Clone(steps), step.keeps)
	wantSame(t, blocks, call{}, again(t, blocks, steps), again(t, blocks, did))
	for _, c := range revokes(again(t, blocks, did)) {
		a, b := again(t, blocks, steps), again(t, blocks, did)
		c.on(a)
		c.on(b)
		wantSame(t, blocks, c, a, b)
	}
}

// revokes is a Revoke of each slot, of the first few, that has what can be given on: of all others nothing was made.
func revokes(m *machine) []call {
	var l []call
	for env := range api.MaxEnvs {
		for slot := 1; slot <= api.MaxCaps; slot++ {
			if _, e := m.Grant(env, slot, -1, g); e == api.ErrArg {
				l = append(l, revoke(env, slot))
			}
		}
	}
	return l[:min(len(l), 8)]
}

// wantSame asks both all that can be asked, and uses them up: first what changes nothing, then what fills the cache, empties it of changes, and takes all blocks that are left.
func wantSame(t *testing.T, blocks int, behind call, a, b *machine) {
	t.Helper()
	same := func(c call) answer {
		got, want := c.on(a), c.on(b)
		if !got.same(want) {
			t.Fatalf("behind %v: %v answers %v, want %v", behind, c, got, want)
		}
		return got
	}
	lookAtDisk := func() {
		same(cached())
		for block := -1; block <= blocks; block++ {
			same(disk(block))
		}
	}
	lookAtDisk()
	for env := range api.MaxEnvs {
		for slot := 1; slot <= api.MaxCaps; slot++ {
			lookInto(env, slot, blocks, same)
		}
	}
	lookAtDisk()
	same(sync())
	lookAtDisk()
	for block := range blocks {
		same(alloc(7, block, 1))
	}
	same(cached())
}

// lookInto asks what a slot has: its rights and its extent.
func lookInto(env, slot, blocks int, ask func(call) answer) {
	has := 0
	for _, rights := range []int{r, w, g, all} {
		if ask(grant(env, slot, -1, rights)).e == api.ErrArg {
			has |= rights
		}
	}
	for block := range blocks {
		if ask(get(env, slot, block)).e == api.OK {
			has |= r
		}
		if ask(put(env, slot, block, nil)).e == api.ErrArg {
			has |= w
		}
	}
	if has != 0 {
		for block := -1; block <= blocks; block++ {
			ask(viewGet(env, slot, block))
			ask(viewPut(env, slot, block, nil))
		}
	}
}

// noEnvs is numbers of which none is an environment's.
func noEnvs() []int {
	return []int{-1, api.MaxEnvs, -1 << 40, 1 << 40, 1 << 32, 1<<32 + 1, math.MinInt, math.MinInt + 1, math.MaxInt}
}

func noSlots() []int {
	return []int{0, -1, api.MaxCaps + 1, -1 << 40, 1 << 40, 1<<32 + 1, math.MinInt, math.MinInt + 1, math.MaxInt}
}

func noRights() []int {
	return []int{0, -1, all + 1, -8, 1<<32 + 1, math.MinInt, math.MaxInt}
}

// far is numbers far beyond both ends of any disk.
func far() []int {
	return []int{-1 << 40, 1 << 40, -1 << 32, 1 << 32, 1<<32 + 3, math.MinInt, math.MinInt + 1, math.MinInt + 3, math.MaxInt - 1, math.MaxInt}
}

// wrongWords is lists of which none has as many words as a block.
func wrongWords() [][]uint64 {
	l := [][]uint64{nil, {}, {1}}
	for _, n := range []int{api.BlockWords - 1, api.BlockWords + 1, 2 * api.BlockWords, 1000, 1 << 16} {
		l = append(l, slices.Repeat([]uint64{7}, n))
	}
	return append(l, words(7)[:api.BlockWords-1], words(7)[:0])
}
