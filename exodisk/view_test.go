package exodisk_test

import (
	"testing"

	"janus/api"
	"janus/exodisk"
)

// 12.3: block b of a View is that at b in the extent, in what the cache has as well.
func TestViewOfEachExtent(t *testing.T) {
	const blocks = 5
	for first := range blocks {
		for n := 1; first+n <= blocks; n++ {
			for b := range n {
				play(t, blocks,
					alloc(1, first, n).is(1), view(1, 1).ok(),
					viewGet(1, 1, b).has(zeros()), cached().are(first+b), sync().is(0),
					viewPut(1, 1, b, words(3)).ok(), get(1, 1, first+b).has(words(3)), disk(first+b).has(zeros()),
					sync().is(1), disk(first+b).has(words(3)), viewGet(1, 1, b).has(words(3)),
					put(1, 1, first+b, words(4)).ok(), viewGet(1, 1, b).has(words(4)), cached().are(first+b),
				)
				play(t, blocks,
					alloc(1, first, n).is(1),
					viewPut(1, 1, b, words(3)).ok(), cached().are(first+b), viewGet(1, 1, b).has(words(3)), sync().is(1), disk(first+b).has(words(3)),
				)
			}
		}
	}
}

// 12.3: what is not in the extent is ErrArg, though the disk may have a block there, and the environment another capability for it.
func TestViewBeyondTheExtent(t *testing.T) {
	for _, b := range append(far(), -3, -2, -1, 3, 4, 5, 6, 7, 8, api.MaxBlocks) {
		play(t, 8,
			alloc(1, 2, 3).is(1), alloc(1, 0, 2).is(2), alloc(1, 5, 3).is(3), view(1, 1).ok(), viewPut(1, 1, 2, words(2)).ok(), viewPut(1, 1, 0, words(1)).ok(),
			viewGet(1, 1, b).fails(api.ErrArg), viewPut(1, 1, b, words(9)).fails(api.ErrArg), viewPut(1, 1, b, nil).fails(api.ErrArg), viewPut(1, 1, b, words(9)[:31]).fails(api.ErrArg),
			viewGet(1, 1, 0).has(words(1)), viewGet(1, 1, 1).has(zeros()), viewGet(1, 1, 2).has(words(2)), cached().are(2, 3, 4),
		)
	}
	// The whole disk, of one block and of as many as may be.
	for _, n := range []int{1, api.MaxBlocks} {
		m := fresh(t, n)
		wantAnswer(t, m, alloc(1, 0, n).is(1))
		for _, b := range append(far(), -1, n, n+1) {
			wantAnswer(t, m, viewGet(1, 1, b).fails(api.ErrArg))
			wantAnswer(t, m, viewPut(1, 1, b, words(1)).fails(api.ErrArg))
		}
		wantAnswer(t, m, cached().are())
		wantAnswer(t, m, viewPut(1, 1, n-1, words(1)).ok())
		wantAnswer(t, m, get(1, 1, n-1).has(words(1)))
		wantAnswer(t, m, viewGet(1, 1, n-1).has(words(1)))
	}
}

// 12.3: without a capability in the slot it is ErrCap, whatever b and the words are.
func TestViewOfASlotWithoutOne(t *testing.T) {
	has := []step{alloc(0, 0, 2).is(1), alloc(1, 2, 2).is(1), alloc(lastEnv, 4, 2).is(1)}
	refused := func(env, slot int) []step {
		l := []step{view(env, slot).ok()}
		for _, b := range append(far(), -1, 0, 1, 2) {
			l = append(l, viewGet(env, slot, b).fails(api.ErrCap), viewPut(env, slot, b, words(1)).fails(api.ErrCap), viewPut(env, slot, b, nil).fails(api.ErrCap))
		}
		return append(l, cached().are())
	}
	for _, slot := range append(noSlots(), 2, api.MaxCaps) {
		for _, env := range []int{0, 1, lastEnv, 5} {
			play(t, 6, append(has, refused(env, slot)...)...)
		}
	}
	for _, env := range append(noEnvs(), 5) {
		play(t, 6, append(has, refused(env, 1)...)...)
	}
}

// 12.3: Get and Put by the rights that the slot has; who lacks one is told so, whatever b and the words are.
func TestViewByRights(t *testing.T) {
	for rights := 1; rights <= all; rights++ {
		m := play(t, 8, alloc(1, 2, 3).is(1), put(1, 1, 3, words(1)).ok(), grant(1, 1, 2, rights).is(1), view(2, 1).ok())
		for _, b := range []int{-1, 0, 1, 2, 3} {
			inside := b >= 0 && b < 3
			want := viewGet(2, 1, b).fails(capElse(rights&r == 0, api.ErrArg))
			if inside && rights&r != 0 {
				want = viewGet(2, 1, b).has(map[bool][]uint64{true: words(1), false: zeros()}[b == 1])
			}
			wantAnswer(t, m, want)
			for _, wrong := range wrongWords() {
				wantAnswer(t, m, viewPut(2, 1, b, wrong).fails(capElse(rights&w == 0, api.ErrArg)))
			}
			if !inside || rights&w == 0 {
				wantAnswer(t, m, viewPut(2, 1, b, words(2)).fails(capElse(rights&w == 0, api.ErrArg)))
			}
		}
		wantAnswer(t, m, sync().is(1))
		for b := range 3 {
			if rights&w != 0 {
				wantAnswer(t, m, viewPut(2, 1, b, words(2)).ok())
				wantAnswer(t, m, get(1, 1, 2+b).has(words(2)))
				wantAnswer(t, m, sync().is(1))
			}
		}
	}
}

func TestViewPutOfWrongWords(t *testing.T) {
	for _, wrong := range wrongWords() {
		play(t, 4,
			alloc(1, 1, 2).is(1), view(1, 1).ok(), viewPut(1, 1, 1, words(1)).ok(),
			viewPut(1, 1, 0, wrong).fails(api.ErrArg), viewPut(1, 1, 1, wrong).fails(api.ErrArg), viewPut(1, 1, 2, wrong).fails(api.ErrArg), viewPut(1, 2, 0, wrong).fails(api.ErrCap),
			viewGet(1, 1, 1).has(words(1)), cached().are(2),
		)
	}
}

// 12.3: the extent is that which the slot has when the View is asked, not when it was asked for.
func TestViewOfASlotThatIsFilledBehindIt(t *testing.T) {
	play(t, 8,
		view(1, 1).ok(), view(1, 2).ok(), view(2, 1).ok(),
		viewGet(1, 1, 0).fails(api.ErrCap),
		alloc(1, 6, 2).is(1), viewPut(1, 1, 1, words(7)).ok(), get(1, 1, 7).has(words(7)), viewGet(1, 1, 2).fails(api.ErrArg), viewGet(1, 2, 0).fails(api.ErrCap),
		alloc(1, 0, 3).is(2), viewPut(1, 2, 2, words(2)).ok(), get(1, 2, 2).has(words(2)), viewGet(1, 2, 3).fails(api.ErrArg), viewGet(1, 1, 1).has(words(7)),
		grant(1, 1, 2, r).is(1), viewGet(2, 1, 1).has(words(7)), viewPut(2, 1, 1, words(8)).fails(api.ErrCap),
	)
}

func TestViewOfASlotThatIsEmptiedBehindIt(t *testing.T) {
	has := []step{
		alloc(1, 2, 3).is(1), grant(1, 1, 2, all).is(1), grant(2, 1, 3, r|w).is(1), view(1, 1).ok(), view(2, 1).ok(), view(3, 1).ok(),
		viewPut(3, 1, 0, words(1)).ok(), viewGet(2, 1, 0).has(words(1)), viewGet(1, 1, 0).has(words(1)),
	}
	play(t, 8, append(has,
		revoke(1, 1).ok(),
		viewGet(2, 1, 0).fails(api.ErrCap), viewPut(2, 1, 0, words(2)).fails(api.ErrCap), viewGet(3, 1, 0).fails(api.ErrCap), viewPut(3, 1, 0, words(2)).fails(api.ErrCap), viewGet(3, 1, 3).fails(api.ErrCap),
		viewGet(1, 1, 0).has(words(1)),
	)...)
	play(t, 8, append(has,
		revoke(2, 1).ok(),
		viewGet(3, 1, 0).fails(api.ErrCap), viewPut(3, 1, 0, words(2)).fails(api.ErrCap), viewGet(2, 1, 0).has(words(1)), viewPut(2, 1, 0, words(3)).ok(), viewGet(1, 1, 0).has(words(3)),
	)...)
	play(t, 8, append(has,
		gone(2).ok(),
		viewGet(2, 1, 0).fails(api.ErrCap), viewPut(2, 1, 0, words(2)).fails(api.ErrCap), viewGet(2, 1, -1).fails(api.ErrCap), viewGet(3, 1, 0).has(words(1)), viewPut(3, 1, 0, words(3)).ok(), viewGet(1, 1, 0).has(words(3)),
		gone(1).ok(), viewGet(1, 1, 0).fails(api.ErrCap), viewGet(3, 1, 0).has(words(3)),
	)...)
}

// A slot that has another extent now is that one; shorter, longer, elsewhere, with other rights.
func TestViewOfASlotThatHasAnotherNow(t *testing.T) {
	play(t, 8,
		alloc(1, 2, 3).is(1), view(1, 1).ok(), viewPut(1, 1, 0, words(20)).ok(), viewPut(1, 1, 2, words(40)).ok(),
		gone(1).ok(), alloc(1, 4, 1).is(1),
		viewGet(1, 1, 0).has(words(40)), viewGet(1, 1, 2).fails(api.ErrArg), viewGet(1, 1, 1).fails(api.ErrArg),
		gone(1).ok(), alloc(1, 0, 8).is(1),
		viewGet(1, 1, 2).has(words(20)), viewGet(1, 1, 4).has(words(40)), viewPut(1, 1, 7, words(70)).ok(), get(1, 1, 7).has(words(70)),
		grant(1, 1, 2, r).is(1), gone(1).ok(), alloc(3, 0, 1).fails(api.ErrCap), viewGet(1, 1, 2).fails(api.ErrCap), viewGet(2, 1, 7).has(words(70)),
	)
	play(t, 8,
		alloc(1, 0, 4).is(1), alloc(3, 4, 4).is(1), view(2, 1).ok(),
		grant(1, 1, 2, r|w).is(1), viewPut(2, 1, 3, words(3)).ok(),
		revoke(1, 1).ok(), grant(3, 1, 2, r).is(1),
		viewGet(2, 1, 3).has(zeros()), cached().are(3, 7), viewPut(2, 1, 3, words(4)).fails(api.ErrCap), get(1, 1, 3).has(words(3)),
	)
}

// Views of one extent in several slots are the same blocks, and each of its own slot's rights.
func TestViewsOfOneExtent(t *testing.T) {
	play(t, 4,
		alloc(1, 1, 2).is(1), grant(1, 1, 1, r).is(2), grant(1, 1, 2, w).is(1), view(1, 1).ok(), view(1, 2).ok(), view(2, 1).ok(),
		viewPut(2, 1, 1, words(1)).ok(), viewGet(1, 2, 1).has(words(1)), viewGet(1, 1, 1).has(words(1)), viewGet(2, 1, 1).fails(api.ErrCap), viewPut(1, 2, 1, words(2)).fails(api.ErrCap),
		viewPut(1, 1, 1, words(3)).ok(), viewGet(1, 2, 1).has(words(3)), cached().are(2), sync().is(1),
	)
}

// To ask for a View is no Get: nothing is there behind it; and each is a View of its own kernel.
func TestViewIsNotNil(t *testing.T) {
	a, b := fresh(t, 2), fresh(t, 2)
	for _, env := range append(noEnvs(), 0, 1, lastEnv) {
		for _, slot := range append(noSlots(), 1, api.MaxCaps) {
			if a.View(env, slot) == nil {
				t.Errorf("View(%d, %d) is nil", env, slot)
			}
		}
	}
	va, vb := a.View(1, 1), b.View(1, 1)
	wantAnswer(t, a, alloc(1, 0, 1).is(1))
	wantAnswer(t, b, alloc(1, 1, 1).is(1))
	if va.Put(0, words(1)) != api.OK || vb.Put(0, words(2)) != api.OK {
		t.Error("Put of a View is refused")
	}
	wantAnswer(t, a, get(1, 1, 0).has(words(1)))
	wantAnswer(t, b, get(1, 1, 1).has(words(2)))
	wantAnswer(t, a, cached().are(0))
	wantAnswer(t, b, cached().are(1))
}

func TestNilView(t *testing.T) {
	var v *exodisk.View
	for _, b := range append(far(), -1, 0, 1, 31, api.MaxBlocks) {
		if l, e := v.Get(b); len(l) != 0 || e != api.ErrArg {
			t.Errorf("Get(%d) of a nil View = %v, %d", b, l, e)
		}
		for _, l := range append(wrongWords(), words(1)) {
			if e := v.Put(b, l); e != api.ErrArg {
				t.Errorf("Put(%d, %d words) of a nil View = %d", b, len(l), e)
			}
		}
	}
}
