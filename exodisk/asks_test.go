package exodisk_test

import (
	"math"
	"testing"

	"janus/api"
	"janus/exodisk"
)

func extentCap(first, n, rights int) api.Cap {
	return api.Cap{Kind: api.CapExtent, Id: first, Len: n, Rights: rights}
}

func wantCap(t *testing.T, k *exodisk.Kernel, env, slot int, want api.Cap) {
	t.Helper()
	if got, has := k.Cap(env, slot); got != want || has != (want != api.Cap{}) {
		t.Errorf("Cap(%d, %d) = %v, %v, want %v", env, slot, got, has, want)
	}
}

// Cap tells what each slot has, whatever its rights are.
func TestCap(t *testing.T) {
	for rights := 1; rights <= all; rights++ {
		m := play(t, 8, alloc(1, 2, 3).is(1), alloc(1, 7, 1).is(2), grant(1, 1, 2, rights).is(1), grant(1, 2, lastEnv, rights).is(1), grant(1, 1, 1, rights).is(3))
		wantCap(t, m.Kernel, 1, 1, extentCap(2, 3, all))
		wantCap(t, m.Kernel, 1, 2, extentCap(7, 1, all))
		wantCap(t, m.Kernel, 1, 3, extentCap(2, 3, rights))
		wantCap(t, m.Kernel, 2, 1, extentCap(2, 3, rights))
		wantCap(t, m.Kernel, lastEnv, 1, extentCap(7, 1, rights))
		wantCap(t, m.Kernel, 2, 2, api.Cap{})
		for _, slot := range noSlots() {
			wantCap(t, m.Kernel, 1, slot, api.Cap{})
		}
		for _, env := range append(noEnvs(), 0, 3) {
			wantCap(t, m.Kernel, env, 1, api.Cap{})
		}
		wantAnswer(t, m, revoke(1, 1).ok())
		wantCap(t, m.Kernel, 2, 1, api.Cap{})
		wantCap(t, m.Kernel, 1, 3, api.Cap{})
	}
}

// Words tells what a Get would: of a block that is there, changed or not, of one that is not there, and of nobody's.
func TestWords(t *testing.T) {
	m := play(t, 4, alloc(1, 0, 3).is(1), put(1, 1, 0, words(1)).ok(), sync().is(1), put(1, 1, 1, words(2)).ok())
	tells := func(want ...[]uint64) {
		t.Helper()
		for block, l := range want {
			wantWords(t, "Words", m.Words(block), l)
		}
	}
	tells(words(1), words(2), zeros(), zeros())
	wantAnswer(t, m, put(1, 1, 0, words(3)).ok())
	tells(words(3), words(2), zeros(), zeros())
	wantAnswer(t, m, disk(0).has(words(1)))
	wantAnswer(t, m, sync().is(2))
	wantAnswer(t, m, gone(1).ok())
	tells(words(3), words(2), zeros(), zeros())
	for _, block := range append(far(), -1, 4, 5, api.MaxBlocks) {
		wantWords(t, "Words", m.Words(block), nil)
	}
}

// To ask is told by no later call, by the cache neither.
func TestCapAndWordsChangeNothing(t *testing.T) {
	steps := []step{alloc(1, 0, 4).is(1), grant(1, 1, 2, r).is(1), put(1, 1, 0, words(1)).ok(), get(1, 1, 3).has(zeros())}
	m := play(t, 6, steps...)
	for n := -1; n <= 12; n++ {
		m.Words(n)
		m.Cap(n, 1)
		m.Cap(1, n)
	}
	wantAnswer(t, m, cached().are(0, 3))
	wantSame(t, 6, call{}, m, again(t, 6, steps))
}

// R4: the words are new memory, of a block that is there and of one that is not.
func TestWordsAreNewMemory(t *testing.T) {
	m := play(t, 2, alloc(1, 0, 2).is(1), put(1, 1, 0, words(1)).ok())
	for block, want := range [][]uint64{words(1), zeros()} {
		one, two := m.Words(block), m.Words(block)
		spoil(one)
		wantWords(t, "another answer", two, want)
		wantWords(t, "what is kept", m.Words(block), want)
		wantAnswer(t, m, get(1, 1, block).has(want))
		wantAnswer(t, m, put(1, 1, block, words(9)).ok())
		wantWords(t, "an earlier answer", two, want)
	}
}

func TestCapAndWordsOfNothing(t *testing.T) {
	for _, k := range []*exodisk.Kernel{nil, {}} {
		for _, n := range []int{0, 1, -1, 64, math.MinInt, math.MaxInt} {
			wantCap(t, k, n, n, api.Cap{})
			wantWords(t, "Words", k.Words(n), nil)
		}
	}
}

// In drawn rows of calls, all slots and blocks are as the model has them.
func TestCapAndWordsAgainstTheModel(t *testing.T) {
	for n, p := range kinds() {
		d, k, m := dice(7000+n), fresh(t, p.blocks), newModel(p.blocks)
		for i := range 150 {
			c := p.call(&d, m, i)
			c.on(k)
			m.do(c)
			for env := range api.MaxEnvs {
				for slot := range api.MaxCaps + 2 {
					want := api.Cap{}
					if x := m.has(env, slot); x != nil {
						want = extentCap(x.first, x.n, x.rights)
					}
					wantCap(t, k.Kernel, env, slot, want)
				}
			}
			for block := range p.blocks {
				wantWords(t, "Words", k.Words(block), m.put[block])
			}
			wantAnswer(t, k, cached().are(m.cached()...))
		}
	}
}
