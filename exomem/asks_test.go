package exomem_test

import (
	"math"
	"slices"
	"testing"

	"janus/api"
	"janus/exomem"
)

func frameCap(frame, rights int) api.Cap {
	return api.Cap{Kind: api.CapFrame, Id: frame, Len: 1, Rights: rights}
}

func wantCap(t *testing.T, k *exomem.Kernel, env, slot int, want api.Cap) {
	t.Helper()
	if got, has := k.Cap(env, slot); got != want || has != (want != api.Cap{}) {
		t.Errorf("Cap(%d, %d) = %v, %v, want %v", env, slot, got, has, want)
	}
}

func wantFrame(t *testing.T, k *exomem.Kernel, frame int, want []uint64) {
	t.Helper()
	if got := k.Words(frame); !slices.Equal(got, want) {
		t.Errorf("Words(%d) = %v, want %v", frame, got, want)
	}
}

// page is 32 words 0, but for one.
func page(word int, v uint64) []uint64 {
	l := make([]uint64, api.PageWords)
	l[word] = v
	return l
}

// Cap tells what each slot has, whatever its rights are.
func TestCap(t *testing.T) {
	for rights := 1; rights <= all; rights++ {
		k := play(t, 3, alloc(1).is(1), alloc(1).is(2), grant(1, 2, 2, rights).is(1), grant(1, 2, 11, rights).is(1), grant(1, 2, 1, rights).is(3), free(1, 1).ok())
		wantCap(t, k, 1, 1, api.Cap{})
		wantCap(t, k, 1, 2, frameCap(1, all))
		wantCap(t, k, 1, 3, frameCap(1, rights))
		wantCap(t, k, 2, 1, frameCap(1, rights))
		wantCap(t, k, 11, 1, frameCap(1, rights))
		wantCap(t, k, 2, 2, api.Cap{})
		for _, slot := range noSlots() {
			wantCap(t, k, 1, slot, api.Cap{})
		}
		for _, env := range append(noEnvs(), 0, 3) {
			wantCap(t, k, env, 1, api.Cap{})
		}
	}
}

// Words tells a frame's words whoever has it, and as they were left when nobody has it.
func TestWords(t *testing.T) {
	k := play(t, 2, alloc(1).is(1), write(1, 1, 31, 5).ok())
	wantFrame(t, k, 0, page(31, 5))
	wantFrame(t, k, 1, page(0, 0))
	for _, s := range []step{grant(1, 1, 2, w).is(1), free(1, 1).ok(), write(2, 1, 31, 6).ok()} {
		wantAnswer(t, k, s)
	}
	wantFrame(t, k, 0, page(31, 6))
	wantAnswer(t, k, free(2, 1).ok())
	wantFrame(t, k, 0, page(31, 6))
	wantAnswer(t, k, alloc(3).is(1))
	wantFrame(t, k, 0, page(0, 0))
	for _, frame := range []int{-1, 2, 3, api.MaxFrames, -1 << 40, 1 << 32, 1 << 40, math.MinInt, math.MaxInt} {
		wantFrame(t, k, frame, nil)
	}
}

// R4: the words are new memory, with room behind their end or not.
func TestWordsAreNewMemory(t *testing.T) {
	k := play(t, 2, alloc(1).is(1), alloc(1).is(2), write(1, 1, 3, 5).ok())
	one, two := k.Words(0), k.Words(0)
	one = one[:cap(one)]
	for i := range one {
		one[i] = 77
	}
	wantFrame(t, k, 0, page(3, 5))
	wantFrame(t, k, 1, page(0, 0))
	wantAnswer(t, k, write(1, 1, 3, 6).ok())
	if !slices.Equal(two, page(3, 5)) {
		t.Errorf("another answer is %v", two)
	}
}

// To ask is told by no later call.
func TestCapAndWordsChangeNothing(t *testing.T) {
	k := play(t, 3, alloc(1).is(1), grant(1, 1, 2, r).is(1), write(1, 1, 3, 5).ok(), mapRead(2, 0, 1).ok())
	was := look(3, doer(k))
	for n := -1; n <= 12; n++ {
		k.Words(n)
		k.Cap(n, 1)
		k.Cap(1, n)
	}
	wantSame(t, call{}, look(3, doer(k)), was)
}

func TestCapAndWordsOfNothing(t *testing.T) {
	for _, k := range []*exomem.Kernel{nil, {}} {
		for _, n := range []int{0, 1, -1, 64, math.MinInt, math.MaxInt} {
			wantCap(t, k, n, n, api.Cap{})
			wantFrame(t, k, n, nil)
		}
	}
}

// In drawn runs of calls, all slots and frames are as the model has them.
func TestCapAndWordsAgainstTheModel(t *testing.T) {
	for n, p := range kinds() {
		s, k, m := numbers(7000+n), fresh(t, p.frames), newModel(p.frames)
		for range 150 {
			c := p.make(&s, k)
			c.on(k)
			m.do(c)
			for env := range api.MaxEnvs {
				for slot := range api.MaxCaps + 2 {
					want := api.Cap{}
					if x := m.has(env, slot); x != nil {
						want = frameCap(x.frame, x.rights)
					}
					wantCap(t, k, env, slot, want)
				}
			}
			for frame := range p.frames {
				wantFrame(t, k, frame, m.words[frame][:])
			}
		}
	}
}
