package exomem_test

import (
	"testing"

	"janus/api"
	"janus/exomem"
)

// two is a kernel in which environment 2 has a frame in slot 1 with rights a, and in slot 2 with rights b (0: it has no such), and all the pages that these let it map: 0 is read-only, 1 writable. Slot 1 was given by 1, slot 2 by 3. Environments 2, 3 and 4 have pages beside these that stay.
func two(t *testing.T, a, b int) *exomem.Kernel {
	t.Helper()
	k := play(t, 3,
		alloc(1).is(1), alloc(2).is(1), alloc(3).is(1),
		grant(1, 1, 3, all).is(2), grant(1, 1, 4, r|w).is(1), free(2, 1).ok(),
		grant(1, 1, 2, a).is(1),
		mapWrite(3, 0, 2).ok(), mapWrite(4, 1, 1).ok(), mapWrite(3, 1, 1).ok(),
	)
	if b > 0 {
		wantAnswer(t, k, grant(3, 2, 2, b).is(2))
	}
	wantAnswer(t, k, grant(3, 1, 2, all).is(2+min(b, 1)))
	wantAnswer(t, k, mapWrite(2, 2, 2+min(b, 1)).ok())
	for slot := 1; slot <= 1+min(b, 1); slot++ {
		k.Map(2, 0, slot, false)
		k.Map(2, 1, slot, true)
	}
	return k
}

// wantPages asks which pages environment 2 has with such rights in its slots, and that the pages beside these are there.
func wantPages(t *testing.T, k *exomem.Kernel, what string, rights ...int) {
	t.Helper()
	wantPage(t, k, what, at(2, 0).readOnly(0), holds(rights, r))
	wantPage(t, k, what, at(2, 1).bothWays(0), holds(rights, r|w))
	wantPage(t, k, what, at(4, 1).bothWays(0), true)
	wantPage(t, k, what, at(3, 0).bothWays(0), true)
	wantPage(t, k, what, at(3, 1).bothWays(2), true)
}

func wantPage(t *testing.T, k *exomem.Kernel, what string, s step, mapped bool) {
	t.Helper()
	if !mapped {
		s = s.none()
	}
	if got := s.on(k); got != s.want {
		t.Errorf("%s: %v answers %v, want %v", what, s.call, got, s.want)
	}
	addr := uint64(s.a) * api.PageWords
	if _, e := k.Load(s.env, addr); (e == api.OK) != mapped {
		t.Errorf("%s: Load(%d, %d) answers error %d", what, s.env, addr, e)
	}
	if e := k.Store(s.env, addr, 1); (e == api.OK) != (mapped && s.want.page.Writable) {
		t.Errorf("%s: Store(%d, %d, 1) = %d", what, s.env, addr, e)
	}
}

// holds tells whether one of these has what a page needs.
func holds(rights []int, need int) bool {
	for _, x := range rights {
		if x&need == need {
			return true
		}
	}
	return false
}

// 9.1: behind Free and Revoke a page is there if one slot that is left has what it needs, whichever it was mapped by; behind Gone none is.
func TestPagesThatHold(t *testing.T) {
	for a := 1; a <= all; a++ {
		for b := 0; b <= all; b++ {
			k := two(t, a, b)
			wantPages(t, k, "ahead", a, b)
			wantAnswer(t, k, free(2, 1).ok())
			wantPages(t, k, "Free of slot 1", b)
			wantPage(t, k, "Free of slot 1", at(2, 2).bothWays(2), true)
			if b > 0 {
				k = two(t, a, b)
				wantAnswer(t, k, free(2, 2).ok())
				wantPages(t, k, "Free of slot 2", a)
				wantAnswer(t, k, free(2, 1).ok())
				wantPages(t, k, "Free of both")
				wantPage(t, k, "Free of both", at(2, 2).bothWays(2), true)
			}
			k = two(t, a, b)
			wantAnswer(t, k, revoke(3, 2).ok())
			wantPages(t, k, "Revoke of slot 2", a)
			wantPage(t, k, "Revoke of slot 2", at(2, 2).bothWays(2), true)
			k = two(t, a, b)
			wantAnswer(t, k, gone(2).ok())
			wantPages(t, k, "Gone")
			wantPage(t, k, "Gone", at(2, 2).bothWays(2), false)
		}
	}
}

// A page that does not hold is unmapped, not made read-only; one that holds stays as it was.
func TestAPageIsNotLeftWithLess(t *testing.T) {
	play(t, 1,
		alloc(1).is(1), grant(1, 1, 1, r).is(2), mapWrite(1, 0, 1).ok(), mapRead(1, 1, 1).ok(), mapRead(1, 2, 2).ok(),
		free(1, 1).ok(), at(1, 0).none(), at(1, 1).readOnly(0), at(1, 2).readOnly(0),
		free(1, 2).ok(), at(1, 1).none(), at(1, 2).none(), left().is(1),
	)
	play(t, 1,
		alloc(1).is(1), grant(1, 1, 2, r).is(1), grant(1, 1, 2, r|w).is(2), mapRead(2, 3, 1).ok(),
		free(2, 1).ok(), at(2, 3).readOnly(0), store(2, 96, 1).fails(api.ErrProt), mapWrite(2, 3, 2).ok(), store(2, 96, 1).ok(),
	)
}

// The right to read in one slot and that to write in another do not hold a page that is writable.
func TestRightsInTwoSlots(t *testing.T) {
	play(t, 1,
		alloc(1).is(1), grant(1, 1, 1, r|g).is(2), grant(1, 1, 1, w|g).is(3), mapWrite(1, 0, 1).ok(), mapRead(1, 3, 1).ok(),
		free(1, 1).ok(), at(1, 0).none(), at(1, 3).readOnly(0), load(1, 0).fails(api.ErrFault), store(1, 0, 1).fails(api.ErrFault),
	)
}

func TestPagesBehindRevokeOfAChain(t *testing.T) {
	chain := []step{
		alloc(0).is(1), grant(0, 1, 1, all).is(1), grant(1, 1, 2, all).is(1), grant(2, 1, 11, r).is(1), grant(11, 1, 3, r).fails(api.ErrCap), grant(2, 1, 0, r).is(2),
		mapWrite(0, 0, 1).ok(), mapRead(0, 1, 2).ok(), mapWrite(1, 1, 1).ok(), mapWrite(2, 2, 1).ok(), mapRead(11, 3, 1).ok(),
	}
	play(t, 2, append(chain, revoke(0, 1).ok(), at(0, 0).bothWays(0), at(0, 1).readOnly(0), at(1, 1).none(), at(2, 2).none(), at(11, 3).none(), left().is(1))...)
	play(t, 2, append(chain, revoke(1, 1).ok(), at(0, 0).bothWays(0), at(0, 1).readOnly(0), at(1, 1).bothWays(0), at(2, 2).none(), at(11, 3).none())...)
	play(t, 2, append(chain, revoke(2, 1).ok(), at(0, 1).readOnly(0), at(1, 1).bothWays(0), at(2, 2).bothWays(0), at(11, 3).none())...)
	play(t, 2, append(chain, revoke(11, 1).ok(), at(0, 1).readOnly(0), at(1, 1).bothWays(0), at(2, 2).bothWays(0), at(11, 3).readOnly(0))...)
	play(t, 2, append(chain, free(0, 1).ok(), at(0, 0).none(), at(0, 1).readOnly(0), at(1, 1).bothWays(0), at(2, 2).bothWays(0), at(11, 3).readOnly(0))...)
	play(t, 2, append(chain, gone(0).ok(), at(0, 0).none(), at(0, 1).none(), at(1, 1).bothWays(0), at(2, 2).bothWays(0), at(11, 3).readOnly(0), left().is(1))...)
	play(t, 2, append(chain, gone(1).ok(), at(0, 0).bothWays(0), at(1, 1).none(), at(2, 2).bothWays(0), at(11, 3).readOnly(0), revoke(0, 1).ok(), at(2, 2).none(), at(11, 3).none())...)
}

// All pages of a frame are lost with it, of other frames none.
func TestSeveralPagesAreLost(t *testing.T) {
	play(t, 3,
		alloc(1).is(1), alloc(1).is(2),
		mapWrite(1, 0, 1).ok(), mapWrite(1, 1, 2).ok(), mapRead(1, 2, 1).ok(), mapRead(1, 3, 1).ok(),
		free(1, 1).ok(), at(1, 0).none(), at(1, 1).bothWays(1), at(1, 2).none(), at(1, 3).none(),
		free(1, 2).ok(), at(1, 1).none(),
	)
}

// A frame that is had again is in no page of who had it ahead.
func TestNoOldPageOfANewFrame(t *testing.T) {
	has := []step{alloc(1).is(1), grant(1, 1, 2, r).is(1), mapWrite(1, 0, 1).ok(), mapRead(2, 0, 1).ok(), store(1, 5, 9).ok()}
	again := []step{left().is(1), alloc(3).is(1), slotOf(3, 0).is(1), mapWrite(3, 1, 1).ok(), store(3, 37, 8).ok()}
	lost := []step{load(1, 5).fails(api.ErrFault), store(1, 5, 7).fails(api.ErrFault), load(2, 5).fails(api.ErrFault), at(1, 0).none(), at(2, 0).none(), load(3, 37).word(8)}
	for _, end := range [][]step{
		{free(1, 1).ok(), free(2, 1).ok()},
		{revoke(1, 1).ok(), free(1, 1).ok()},
		{gone(1).ok(), gone(2).ok()},
		{gone(2).ok(), free(1, 1).ok()},
	} {
		play(t, 1, join(has, end, again, lost)...)
	}
	// Nor if the same environment has it.
	play(t, 1, join(has, []step{revoke(1, 1).ok(), free(1, 1).ok(), alloc(1).is(1), at(1, 0).none(), load(1, 5).fails(api.ErrFault), read(1, 1, 5).word(0)})...)
}

func join(lists ...[]step) []step {
	var l []step
	for _, x := range lists {
		l = append(l, x...)
	}
	return l
}

// 9.3: Gone takes all of one's own, and leaves what was given on.
func TestGone(t *testing.T) {
	for _, env := range append(noEnvs(), 5) {
		k := play(t, 3, alloc(0).is(1), alloc(11).is(1), mapWrite(0, 0, 1).ok(), mapWrite(11, 3, 1).ok(), grant(0, 1, 11, r).is(2))
		was := look(3, doer(k))
		k.Gone(env)
		wantSame(t, gone(env), look(3, doer(k)), was)
	}
	play(t, 4,
		alloc(1).is(1), alloc(1).is(2), alloc(2).is(1), grant(1, 1, 2, r|g).is(2), grant(2, 1, 1, all).is(3), grant(2, 2, 3, r).is(1),
		mapWrite(1, 0, 1).ok(), mapWrite(1, 1, 2).ok(), mapRead(1, 3, 3).ok(), mapRead(2, 0, 2).ok(), mapRead(3, 0, 1).ok(), mapWrite(2, 1, 1).ok(), write(1, 1, 4, 40).ok(),
		gone(1).ok(),
		refs(1, 1).is(0), refs(1, 2).is(0), refs(1, 3).is(0), at(1, 0).none(), at(1, 1).none(), at(1, 3).none(),
		slotOf(1, 0).is(0), slotOf(1, 1).is(0), slotOf(1, 2).is(0), left().is(2),
		refs(2, 2).is(2), refs(2, 1).is(1), at(2, 0).readOnly(0), at(2, 1).bothWays(2), load(2, 4).word(40), load(3, 4).word(40),
		gone(1).ok(), left().is(2),
		alloc(1).is(1), slotOf(1, 1).is(1), read(1, 1, 0).word(0), // a frame that was its own alone
		revoke(2, 2).ok(), at(3, 0).none(), at(2, 0).readOnly(0), left().is(1),
		gone(2).ok(), left().is(3), gone(1).ok(), left().is(4),
	)
}

// T7: when all are gone, all frames are free, and what they held is nobody's.
func TestAllAreGone(t *testing.T) {
	k := fresh(t, 40)
	for env := range api.MaxEnvs {
		for slot := 1; slot <= 3; slot++ {
			wantAnswer(t, k, alloc(env).is(slot))
			wantAnswer(t, k, write(env, slot, env, 9).ok())
			wantAnswer(t, k, mapWrite(env, slot, slot).ok())
		}
	}
	for env := range api.MaxEnvs {
		wantAnswer(t, k, grant(env, 2, (env+1)%api.MaxEnvs, all).is(4))
	}
	wantAnswer(t, k, left().is(4))
	for env := range api.MaxEnvs {
		k.Gone(env)
	}
	wantSame(t, gone(11), look(40, doer(k)), look(40, doer(fresh(t, 40))))
}

// 9.4: a frame that was freed is all 0 when it is had again, in whatever way it was freed.
func TestHadAgainAllZero(t *testing.T) {
	for _, end := range [][]step{
		{free(1, 1).ok()},
		{gone(1).ok()},
		{grant(1, 1, 2, all).is(1), free(1, 1).ok(), write(2, 1, 7, 99).ok(), free(2, 1).ok()},
		{grant(1, 1, 2, w|g).is(1), revoke(1, 1).ok(), free(1, 1).ok()},
		{grant(1, 1, 1, r).is(2), gone(1).ok()},
	} {
		for _, env := range []int{1, 2, 0, 11} {
			k := fresh(t, 1)
			wantAnswer(t, k, alloc(1).is(1))
			for word := range api.PageWords {
				wantAnswer(t, k, write(1, 1, word, uint64(word)+1<<40).ok())
			}
			for _, s := range append(end, alloc(env).is(1), mapRead(env, 2, 1).ok()) {
				wantAnswer(t, k, s)
			}
			for word := range api.PageWords {
				wantAnswer(t, k, read(env, 1, word).word(0))
				wantAnswer(t, k, load(env, uint64(64+word)).word(0))
			}
		}
	}
}
