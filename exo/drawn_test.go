package exo_test

import (
	"slices"
	"testing"

	"janus/api"
)

// dice throws the same numbers in every run.
type dice uint64

func (d *dice) below(n int) int {
	*d = *d*6364136223846793005 + 1442695040888963407
	return int(uint64(*d>>33) % uint64(n))
}

func (d *dice) word(n int) uint64 { return uint64(d.below(n)) }

func (d *dice) seldom() bool { return d.below(25) == 0 }

func pickOf[T any](d *dice, l []T) T { return l[d.below(len(l))] }

// kind is how a row of calls is drawn: on which machine, and how often each call is among a hundred or so.
type kind struct {
	size
	often []int
	ahead []call
}

func kinds() []kind {
	every := []int{6, 6, 3, 2, 6, 2, 6, 6, 4, 4, 6, 5, 5, 5, 5, 1, 5, 6}
	taking := []int{8, 8, 8, 5, 6, 2, 3, 3, 3, 3, 3, 2, 2, 4, 8, 4, 3, 3}
	talking := []int{1, 1, 0, 0, 0, 0, 0, 0, 0, 0, 0, 20, 12, 0, 0, 0, 0, 0}
	hoarding := []int{3, 30, 1, 0, 4, 1, 4, 4, 2, 2, 3, 1, 1, 3, 30, 0, 4, 4}
	return []kind{
		{usual(), every, nil},
		{size{2, 3, []int{1, 2, 3}}, taking, nil},
		{size{6, 12, []int{0, 1, 2, 3, 4, 5, 6, 7, 8, 9, 10, 11}}, every, nil},
		{size{1, 1, []int{0, 11}}, every, nil},
		{size{3, 5, []int{2, 9}}, talking, nil},
		{size{4, 9, []int{5, 6}}, hoarding, slices.Concat([]call{alloc(5), allocBlocks(5, 3, 2)}, same(grant(5, 1, 5, all), 55), same(grantBlocks(5, 1, 5, all), 55))},
	}
}

// env is mostly one that lives.
func (p kind) env(d *dice) int {
	if d.seldom() {
		return pickOf(d, append(noEnvs(), 4, 10))
	}
	return pickOf(d, p.live)
}

func (p kind) to(d *dice) uint64 {
	if d.seldom() {
		return pickOf(d, toWhom())
	}
	return uint64(pickOf(d, p.live))
}

// number draws which call it is.
func (p kind) number(d *dice) uint64 {
	var l []uint64
	for n, often := range p.often {
		l = append(l, slices.Repeat([]uint64{uint64(n)}, often)...)
	}
	return pickOf(d, l)
}

// held is mostly a capability that the environment has.
func (p kind) held(d *dice, m *model, what, env int) made {
	l := m.bySlots(what, env)
	if len(l) == 0 || d.seldom() {
		return made{slot: pickOf(d, []int{0, 1, 2, 3, 64, 65, 1<<31 - 1, 1 << 31}), have: all, n: 1}
	}
	return *pickOf(d, l)
}

// call is mostly one that is not refused; what it writes is the tag, so that no two are alike.
func (p kind) call(d *dice, m *model, tag uint64) call {
	n, env := p.number(d), p.env(d)
	what := frameKind
	if n >= 13 {
		what = extentKind
	}
	for range 4 { // one that has something, where that is asked for
		if !slices.Contains([]uint64{0, 11, 12, 13}, n) && m.has(what, env, 1) == nil {
			env = p.env(d)
		}
	}
	x := p.held(d, m, what, env)
	c := p.filled(d, m, n, env, tag, x)
	return p.spoilt(d, c)
}

// filled is the call of that number, on the capability that is given.
func (p kind) filled(d *dice, m *model, n uint64, env int, tag uint64, x made) call {
	slot := uint64(x.slot)
	rights := pickOf(d, []uint64{uint64(x.have), uint64(x.have), uint64(x.have), uint64(x.have & 3), uint64(x.have & 5), uint64(x.have & 6), d.word(9)})
	block := uint64(x.id + d.below(x.n))
	if d.below(8) == 0 {
		block = d.word(p.blocks + 1)
	}
	switch n {
	case 1, 14:
		return raw(env, n, slot, p.to(d), rights)
	case 2, 3, 15:
		return raw(env, n, slot)
	case 4:
		return raw(env, n, d.word(4), slot, d.word(2))
	case 5:
		return raw(env, n, d.word(4))
	case 6:
		return raw(env, n, p.addr(d, m, env))
	case 7:
		return raw(env, n, p.addr(d, m, env), tag)
	case 8:
		return raw(env, n, slot, uint64(p.held(d, m, frameKind, env).slot))
	case 9:
		return raw(env, n, slot, d.word(33))
	case 10:
		return raw(env, n, slot, d.word(33), tag)
	case 11:
		return send(env, p.to(d), words(tag)[:d.below(9)]...)
	case 13:
		return raw(env, n, d.word(p.blocks), 1+d.word(1+p.blocks/2))
	case 16:
		return raw(env, n, slot, block)
	case 17:
		return put(env, slot, block, words(tag))
	}
	return raw(env, n)
}

// addr is mostly one at which something is mapped.
func (p kind) addr(d *dice, m *model, env int) uint64 {
	addr := d.word(130)
	for range 4 {
		if addr < 128 && m.lives(env) && m.pages[env][addr/32] == nil {
			addr = d.word(130)
		}
	}
	return addr
}

// spoilt is mostly the call as it is, seldom one with another word, or with too few or too many.
func (p kind) spoilt(d *dice, c call) call {
	l := slices.Clone(c.words)
	switch at := d.below(len(l)); d.below(60) {
	case 0:
		l[at] = pickOf(d, []uint64{0, 2, 3, 8, 12, 18, 32, 65, 128, 1<<31 - 1, 1 << 31, 1<<32 + l[at], top})
	case 1:
		l = l[:at]
	case 2:
		l = append(l, 1)
	}
	return raw(c.env, l...)
}

// row draws a row of calls and hands each on, ahead of being done by the model.
func (p kind) row(seed, n int, do func(m *model, c call)) {
	d, m := dice(seed), newModel(p.size)
	for i := range n {
		c := p.call(&d, m, uint64(i+1))
		if i < len(p.ahead) {
			c = p.ahead[i]
		}
		do(m, c)
	}
}

// 13.1 and 13.2: rows of calls answer what the model answers, and leave what it leaves.
func TestAgainstTheModel(t *testing.T) {
	full := 0
	for n, p := range kinds() {
		seen := map[api.Errno]int{}
		for seed := range 20 {
			k := fresh(t, p.size)
			p.row(1000*n+seed, 250, func(m *model, c call) {
				want := m.do(c)
				seen[want.e]++
				if got := c.on(k); !got.same(want) {
					t.Fatalf("kind %d, seed %d: %v answers %v, want %v", n, seed, c, got, want)
				}
				wantSame(t, c, look(k, p.size), m.look())
			})
		}
		if seen[api.OK] < 1000 || seen[api.ErrArg] < 100 {
			t.Errorf("kind %d: the calls do not try enough: %v", n, seen)
		}
		if n < 3 && slices.Min([]int{seen[api.ErrCap], seen[api.ErrNone], seen[api.ErrFault], seen[api.ErrProt]}) == 0 {
			t.Errorf("kind %d: the calls do not try enough: %v", n, seen)
		}
		full += seen[api.ErrFull]
	}
	if full < 100 {
		t.Errorf("only %d calls found all full", full)
	}
}

// few is the calls of two environments on one frame and two blocks that change something; what is written is told apart by where in the row it is.
func few(at uint64) []call {
	var l []call
	for env := 1; env <= 2; env++ {
		other := uint64(3 - env)
		l = append(l, alloc(env), grant(env, 1, other, all), free(env, 1), revoke(env, 1), mapWrite(env, 0, 1), store(env, 0, at))
		l = append(l, send(env, other, at), recv(env), allocBlocks(env, 0, 2), grantBlocks(env, 1, other, r|g), revokeBlocks(env, 1), put(env, 1, 1, words(at)))
	}
	return l
}

// TestAllShortRows makes all rows of three calls, on a kernel that is new and on ones to which something was done.
func TestAllShortRows(t *testing.T) {
	s := size{1, 2, []int{1, 2}}
	for _, ahead := range [][]call{
		nil,
		{alloc(1), grant(1, 1, 2, all), grant(2, 1, 1, r|w), mapWrite(1, 0, 2), mapWrite(2, 0, 1), allocBlocks(2, 0, 2), grantBlocks(2, 1, 1, all), grantBlocks(1, 1, 2, w), send(1, 2, 5)},
	} {
		choices := [][]call{few(11), few(12), few(13)}
		for row := range len(choices[0]) * len(choices[1]) * len(choices[2]) {
			calls, left := slices.Clone(ahead), row
			for _, l := range choices {
				calls = append(calls, l[left%len(l)])
				left /= len(l)
			}
			wantRow(t, s, calls)
		}
	}
}

func wantRow(t *testing.T, s size, calls []call) {
	t.Helper()
	k, m := fresh(t, s), newModel(s)
	for i, c := range calls {
		if got, want := c.on(k), m.do(c); !got.same(want) {
			t.Fatalf("behind %v: %v answers %v, want %v", calls[:i], c, got, want)
		}
	}
	wantSame(t, calls[len(calls)-1], look(k, s), m.look())
}

// 13.3: what is refused is told by nothing, in drawn rows, too.
func TestRefusedCallsAreNotTold(t *testing.T) {
	for n, p := range kinds() {
		for seed := range 6 {
			for _, calls := range later(p.size) {
				a, b := fresh(t, p.size), fresh(t, p.size)
				p.row(500*n+seed, 80, func(m *model, c call) {
					c.on(a)
					if m.do(c).e == api.OK {
						c.on(b)
					}
				})
				for _, c := range calls {
					if got, want := c.on(a), c.on(b); !got.same(want) {
						t.Fatalf("kind %d, seed %d: %v answers %v, want %v", n, seed, c, got, want)
					}
				}
				wantSame(t, calls[0], look(a, p.size), look(b, p.size))
			}
		}
	}
}

// R5: the same calls answer the same each time, whatever was done to others.
func TestSameCallsAnswerTheSame(t *testing.T) {
	for n, p := range kinds() {
		a, b, other := fresh(t, p.size), fresh(t, p.size), fresh(t, p.size)
		p.row(31+n, 200, func(m *model, c call) {
			m.do(c)
			x := c.on(a)
			alloc(p.live[0]).on(other)
			if y := c.on(b); !x.same(y) {
				t.Fatalf("kind %d: %v answers %v and %v", n, c, x, y)
			}
			look(b, p.size)
		})
		wantSame(t, call{}, look(a, p.size), look(b, p.size))
	}
}
