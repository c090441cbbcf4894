package exomem_test

import (
	"math"
	"slices"
	"testing"

	"janus/api"
	"janus/exomem"
)

func TestExamples(t *testing.T) {
	play(t, 2,
		alloc(1).is(1),
		mapWrite(1, 0, 1).ok(),
		store(1, 3, 9).ok(),
		load(1, 3).word(9),
		grant(1, 1, 2, 1).is(1),
		mapWrite(2, 0, 1).fails(api.ErrCap),
		mapRead(2, 0, 1).ok(),
		load(2, 3).word(9),
		revoke(1, 1).ok(),
		load(2, 3).fails(api.ErrFault),
		load(1, 3).word(9),
	)
}

// 9.1: a kernel is there where a memory is.
func TestNew(t *testing.T) {
	for _, frames := range []int{0, -1, api.MaxFrames + 1, -1 << 40, 1 << 40, 1<<32 + 1, math.MinInt, math.MaxInt} {
		if exomem.New(frames) != nil {
			t.Errorf("New(%d) is not nil", frames)
		}
	}
	for _, frames := range []int{1, 2, 31, api.MaxFrames - 1, api.MaxFrames} {
		k := fresh(t, frames)
		if got := k.Left(); got != frames {
			t.Errorf("New(%d): Left() = %d", frames, got)
		}
		for _, x := range look(frames, doer(k)) {
			if x.name != "Left" && x.answer != (answer{}) {
				t.Errorf("New(%d): %v answers %v", frames, x.call, x.answer)
			}
		}
	}
}

// 9.2: the lowest free frame, in the lowest free slot.
func TestAllocTakesTheLowest(t *testing.T) {
	play(t, 4,
		alloc(1).is(1), slotOf(1, 0).is(1), left().is(3),
		alloc(2).is(1), slotOf(2, 1).is(1), left().is(2),
		alloc(1).is(2), slotOf(1, 2).is(2), left().is(1),
		alloc(11).is(1), slotOf(11, 3).is(1), left().is(0),
		alloc(0).fails(api.ErrNone),
		free(1, 2).ok(), left().is(1),
		free(2, 1).ok(), left().is(2),
		alloc(0).is(1), slotOf(0, 1).is(1), slotOf(0, 2).is(0), left().is(1),
		alloc(0).is(2), slotOf(0, 2).is(2), left().is(0),
		alloc(0).fails(api.ErrNone),
		free(0, 1).ok(),
		alloc(0).is(1), slotOf(0, 1).is(1), slotOf(0, 2).is(2),
	)
}

// A frame that was given on is not free till the last one is gone.
func TestAllocPassesByWhatWasGivenOn(t *testing.T) {
	play(t, 2,
		alloc(1).is(1),
		grant(1, 1, 2, w).is(1),
		free(1, 1).ok(), left().is(1),
		alloc(1).is(1), slotOf(1, 0).is(0), slotOf(1, 1).is(1),
		alloc(3).fails(api.ErrNone),
		free(2, 1).ok(), left().is(1),
		alloc(3).is(1), slotOf(3, 0).is(1),
	)
}

func TestAllocGivesAllRights(t *testing.T) {
	wantRights(t, play(t, 2, alloc(0).is(1), alloc(11).is(1)), 0, 1, all)
	wantRights(t, play(t, 2, alloc(0).is(1), alloc(11).is(1)), 11, 1, all)
}

func TestAllocFromAllFrames(t *testing.T) {
	k := fresh(t, api.MaxEnvs*api.MaxCaps+1)
	for i := range api.MaxEnvs * api.MaxCaps {
		env, slot := i/api.MaxCaps, i%api.MaxCaps+1
		if got, e := k.Alloc(env); got != slot || e != api.OK || k.Slot(env, i) != slot {
			t.Fatalf("Alloc(%d) = %d, %d, Slot(%d, %d) = %d, want %d", env, got, e, env, i, k.Slot(env, i), slot)
		}
	}
	for env := range api.MaxEnvs {
		if got, e := k.Alloc(env); got != 0 || e != api.ErrFull || k.Left() != 1 {
			t.Errorf("Alloc(%d) = %d, %d, want 0, ErrFull", env, got, e)
		}
	}
}

func TestAllocErrors(t *testing.T) {
	for _, env := range noEnvs() {
		play(t, 2, alloc(env).fails(api.ErrArg), alloc(1).is(1), alloc(1).is(2), alloc(env).fails(api.ErrArg))
	}
	k, none := filled(t, api.MaxCaps+1), filled(t, api.MaxCaps)
	wantRefused(t, k, api.MaxCaps+1, alloc(5).fails(api.ErrFull))
	wantAnswer(t, k, left().is(1))
	wantRefused(t, none, api.MaxCaps, alloc(5).fails(api.ErrNone)) // it has no free slot either
	wantAnswer(t, k, free(5, 17).ok())
	wantAnswer(t, k, alloc(5).is(17))
	wantAnswer(t, k, slotOf(5, 16).is(17))
	wantAnswer(t, k, alloc(5).fails(api.ErrFull))
	wantAnswer(t, k, alloc(4).is(1))
	wantAnswer(t, k, slotOf(4, api.MaxCaps).is(1))
}

// filled is a kernel in which environment 5 has a frame in each slot.
func filled(t *testing.T, frames int) *exomem.Kernel {
	t.Helper()
	k := fresh(t, frames)
	for slot := 1; slot <= api.MaxCaps; slot++ {
		wantAnswer(t, k, alloc(5).is(slot))
	}
	return k
}

func wantAnswer(t *testing.T, k *exomem.Kernel, s step) {
	t.Helper()
	if got := s.on(k); got != s.want {
		t.Errorf("%v answers %v, want %v", s.call, got, s.want)
	}
}

// wantRefused asks that the call is refused, and changes nothing that can be asked.
func wantRefused(t *testing.T, k *exomem.Kernel, frames int, s step) {
	t.Helper()
	was := look(frames, doer(k))
	wantAnswer(t, k, s)
	wantSame(t, s.call, look(frames, doer(k)), was)
}

// wantRights asks which rights are in a slot, without a change.
func wantRights(t *testing.T, k *exomem.Kernel, env, slot, rights int) {
	t.Helper()
	lacks := func(need int) bool { return need&^rights != 0 }
	wantAnswer(t, k, read(env, slot, -1).fails(capElse(lacks(r), api.ErrArg)))
	wantAnswer(t, k, write(env, slot, -1, 0).fails(capElse(lacks(w), api.ErrArg)))
	for give := 1; give <= all; give++ {
		wantAnswer(t, k, grant(env, slot, -1, give).fails(capElse(lacks(g) || lacks(give), api.ErrArg)))
	}
}

// capElse answers ErrCap if a right is lacking.
func capElse(lacking bool, e api.Errno) api.Errno {
	if lacking {
		return api.ErrCap
	}
	return e
}

// 9.2: Grant gives any of the giver's rights on, if RightGrant is among them.
func TestGrantEachOfEach(t *testing.T) {
	for own := 1; own <= all; own++ {
		for give := 1; give <= all; give++ {
			steps := []step{alloc(1).is(1), grant(1, 1, 2, own).is(1)}
			if own&g != 0 && give&^own == 0 {
				k := play(t, 2, append(steps, grant(2, 1, 3, give).is(1), refs(1, 1).is(3), left().is(1), slotOf(3, 0).is(1))...)
				wantRights(t, k, 1, 1, all)
				wantRights(t, k, 2, 1, own)
				wantRights(t, k, 3, 1, give)
			} else {
				play(t, 2, append(steps, grant(2, 1, 3, give).fails(api.ErrCap), refs(1, 1).is(2))...)
			}
		}
	}
}

func TestGrantToOneself(t *testing.T) {
	k := play(t, 2,
		alloc(1).is(1),
		grant(1, 1, 1, r).is(2),
		grant(1, 1, 1, all).is(3),
		grant(1, 3, 1, w|g).is(4),
		refs(1, 2).is(4), slotOf(1, 0).is(1), left().is(1),
		free(1, 2).ok(),
		grant(1, 4, 1, w).is(2),
	)
	wantRights(t, k, 1, 1, all)
	wantRights(t, k, 1, 2, w)
	wantRights(t, k, 1, 4, w|g)
}

func TestGrantErrors(t *testing.T) {
	has := []step{alloc(1).is(1), grant(1, 1, 2, r|g).is(1)}
	for _, to := range noEnvs() {
		play(t, 2, append(has, grant(1, 1, to, r).fails(api.ErrArg), grant(1, 2, to, r).fails(api.ErrCap), grant(2, 1, to, w).fails(api.ErrCap), grant(1, 1, to, 0).fails(api.ErrCap))...)
	}
	for _, env := range noEnvs() {
		play(t, 2, append(has, grant(env, 1, 2, r).fails(api.ErrCap), grant(env, 1, env, r).fails(api.ErrCap))...)
	}
	for _, slot := range append(noSlots(), 2, api.MaxCaps) {
		play(t, 2, append(has, grant(1, slot, 2, r).fails(api.ErrCap), grant(1, slot, -1, r).fails(api.ErrCap))...)
	}
	for _, rights := range noRights() {
		play(t, 2, append(has, grant(1, 1, 2, rights).fails(api.ErrCap))...)
	}
}

func TestGrantToAFullOne(t *testing.T) {
	k := fresh(t, 2)
	wantAnswer(t, k, alloc(1).is(1))
	for slot := 1; slot <= api.MaxCaps; slot++ {
		wantAnswer(t, k, grant(1, 1, 2, r).is(slot))
	}
	wantRefused(t, k, 2, grant(1, 1, 2, r).fails(api.ErrFull))
	wantRefused(t, k, 2, grant(1, 1, 2, 8).fails(api.ErrCap))
	wantRefused(t, k, 2, alloc(2).fails(api.ErrFull))
	wantAnswer(t, k, refs(2, api.MaxCaps).is(api.MaxCaps+1))
	wantAnswer(t, k, free(2, api.MaxCaps).ok())
	wantAnswer(t, k, free(2, 9).ok())
	wantAnswer(t, k, grant(1, 1, 2, w).is(9))
	wantAnswer(t, k, alloc(2).is(api.MaxCaps))
}

// 9.2: Free takes one, whatever its rights, and leaves what was made of it.
func TestFree(t *testing.T) {
	for rights := 1; rights <= all; rights++ {
		play(t, 2,
			alloc(1).is(1),
			grant(1, 1, 2, rights).is(1),
			free(1, 1).ok(), left().is(1), refs(1, 1).is(0), refs(2, 1).is(1), slotOf(1, 0).is(0), slotOf(2, 0).is(1),
			free(1, 1).fails(api.ErrCap),
			free(2, 1).ok(), left().is(2), refs(2, 1).is(0), slotOf(2, 0).is(0),
			free(2, 1).fails(api.ErrCap),
		)
	}
	play(t, 3,
		alloc(1).is(1), alloc(1).is(2), alloc(1).is(3),
		free(1, 2).ok(), left().is(1), slotOf(1, 0).is(1), slotOf(1, 1).is(0), slotOf(1, 2).is(3),
		grant(1, 3, 1, all).is(2), slotOf(1, 2).is(2),
		free(1, 3).ok(), left().is(1), slotOf(1, 2).is(2), refs(1, 2).is(1),
		free(1, 2).ok(), left().is(2), free(1, 1).ok(), left().is(3),
	)
}

func TestFreeAndRevokeErrors(t *testing.T) {
	has := []step{alloc(0).is(1), alloc(11).is(1), grant(0, 1, 11, all).is(2)}
	for _, env := range noEnvs() {
		play(t, 3, append(has, free(env, 1).fails(api.ErrCap), revoke(env, 1).fails(api.ErrCap))...)
	}
	for _, slot := range append(noSlots(), 3, api.MaxCaps) {
		play(t, 3, append(has, free(11, slot).fails(api.ErrCap), revoke(11, slot).fails(api.ErrCap))...)
	}
	play(t, 3, append(has, free(3, 1).fails(api.ErrCap), revoke(3, 1).fails(api.ErrCap), free(0, 2).fails(api.ErrCap), revoke(0, 2).fails(api.ErrCap))...)
}

func TestTheLastSlot(t *testing.T) {
	k := filled(t, api.MaxCaps)
	wantAnswer(t, k, write(5, api.MaxCaps, 31, 4).ok())
	wantAnswer(t, k, read(5, api.MaxCaps, 31).word(4))
	wantAnswer(t, k, mapWrite(5, 3, api.MaxCaps).ok())
	wantAnswer(t, k, load(5, 127).word(4))
	wantAnswer(t, k, at(5, 3).bothWays(63))
	wantAnswer(t, k, copied(5, 1, api.MaxCaps).ok())
	wantAnswer(t, k, read(5, 1, 31).word(4))
	wantAnswer(t, k, slotOf(5, 63).is(api.MaxCaps))
	wantAnswer(t, k, grant(5, api.MaxCaps, 4, r).is(1))
	wantAnswer(t, k, refs(5, api.MaxCaps).is(2))
	wantAnswer(t, k, revoke(5, api.MaxCaps).ok())
	wantAnswer(t, k, refs(4, 1).is(0))
	wantAnswer(t, k, free(5, api.MaxCaps).ok())
	wantAnswer(t, k, at(5, 3).none())
	wantAnswer(t, k, left().is(1))
}

// 9.2: Revoke takes all that were made of it, and of these; not itself.
func TestRevokeAChain(t *testing.T) {
	chain := []step{alloc(1).is(1), grant(1, 1, 2, all).is(1), grant(2, 1, 3, r|g).is(1), grant(3, 1, 4, r|g).is(1), grant(4, 1, 1, r).is(2)}
	play(t, 2, append(chain, revoke(1, 1).ok(), refs(1, 1).is(1), refs(1, 2).is(0), refs(2, 1).is(0), refs(3, 1).is(0), refs(4, 1).is(0), left().is(1), revoke(1, 1).ok())...)
	play(t, 2, append(chain, revoke(3, 1).ok(), refs(1, 1).is(3), refs(1, 2).is(0), refs(2, 1).is(3), refs(3, 1).is(3), refs(4, 1).is(0))...)
	play(t, 2, append(chain, revoke(1, 2).ok(), refs(1, 1).is(5), refs(1, 2).is(5))...)
	// What was made of a freed one is made of what that was made of.
	play(t, 2, append(chain, free(2, 1).ok(), free(4, 1).ok(), revoke(3, 1).ok(), refs(3, 1).is(2), refs(1, 2).is(0))...)
	play(t, 2, append(chain, free(2, 1).ok(), free(4, 1).ok(), revoke(1, 1).ok(), refs(1, 1).is(1), refs(3, 1).is(0))...)
	// What was made of the first of a frame is made by nobody, when that is freed.
	play(t, 2, append(chain, free(1, 1).ok(), alloc(1).is(1), revoke(1, 1).ok(), refs(2, 1).is(4), slotOf(1, 1).is(1), revoke(2, 1).ok(), refs(2, 1).is(1), left().is(0))...)
}

func TestRevokeATree(t *testing.T) {
	tree := []step{
		alloc(1).is(1), alloc(1).is(2),
		grant(1, 1, 2, all).is(1), grant(1, 1, 3, all).is(1),
		grant(2, 1, 4, all).is(1), grant(2, 1, 3, all).is(2), grant(3, 1, 4, r).is(2), grant(3, 2, 4, w).is(3),
		grant(1, 2, 4, r).is(4),
	}
	play(t, 3, append(tree, refs(1, 1).is(7), revoke(2, 1).ok(), refs(1, 1).is(4), refs(4, 1).is(0), refs(4, 2).is(4), refs(4, 3).is(0), refs(3, 1).is(4), refs(3, 2).is(0), refs(4, 4).is(2))...)
	play(t, 3, append(tree, revoke(3, 1).ok(), refs(1, 1).is(6), refs(4, 2).is(0), refs(4, 3).is(6), refs(4, 4).is(2))...)
	play(t, 3, append(tree, revoke(1, 1).ok(), refs(1, 1).is(1), slotOf(4, 0).is(0), slotOf(4, 1).is(4), refs(4, 4).is(2), left().is(1))...)
	play(t, 3, append(tree, revoke(1, 2).ok(), refs(1, 1).is(7), refs(1, 2).is(1), refs(4, 4).is(0))...)
}

// 9.2: a frame is mapped by who may read it, and may write it, if the page is writable.
func TestMapWithEachRights(t *testing.T) {
	for rights := 1; rights <= all; rights++ {
		for page := range api.MaxPages {
			steps := []step{alloc(1).is(1), alloc(1).is(2), grant(1, 2, 2, rights).is(1), at(2, page).none()}
			if rights&r == 0 {
				play(t, 2, append(steps, mapRead(2, page, 1).fails(api.ErrCap))...)
			} else {
				play(t, 2, append(steps, mapRead(2, page, 1).ok(), at(2, page).readOnly(1))...)
			}
			if rights&(r|w) != r|w {
				play(t, 2, append(steps, mapWrite(2, page, 1).fails(api.ErrCap))...)
			} else {
				play(t, 2, append(steps, mapWrite(2, page, 1).ok(), at(2, page).bothWays(1))...)
			}
		}
	}
	// The rights to read and to write are asked of one slot.
	play(t, 2, alloc(1).is(1), grant(1, 1, 2, r).is(1), grant(1, 1, 2, w).is(2), mapWrite(2, 0, 1).fails(api.ErrCap), mapWrite(2, 0, 2).fails(api.ErrCap), mapRead(2, 0, 2).fails(api.ErrCap), mapRead(2, 0, 1).ok())
}

func TestMapAgain(t *testing.T) {
	play(t, 3,
		alloc(1).is(1), alloc(1).is(2), write(1, 1, 5, 50).ok(), write(1, 2, 5, 51).ok(),
		mapRead(1, 2, 1).ok(), at(1, 2).readOnly(0), load(1, 69).word(50), store(1, 69, 1).fails(api.ErrProt),
		mapWrite(1, 2, 1).ok(), at(1, 2).bothWays(0), store(1, 69, 52).ok(),
		mapWrite(1, 2, 2).ok(), at(1, 2).bothWays(1), load(1, 69).word(51),
		mapRead(1, 2, 2).ok(), at(1, 2).readOnly(1), store(1, 69, 1).fails(api.ErrProt),
		mapRead(1, 2, 3).fails(api.ErrCap), at(1, 2).readOnly(1),
		read(1, 1, 5).word(52), read(1, 2, 5).word(51),
		at(1, 0).none(), at(1, 1).none(), at(1, 3).none(), at(2, 2).none(),
	)
}

func TestOneFrameAtSeveralPages(t *testing.T) {
	play(t, 2,
		alloc(0).is(1), grant(0, 1, 11, r).is(1),
		mapWrite(0, 0, 1).ok(), mapRead(0, 3, 1).ok(), mapRead(11, 0, 1).ok(), mapRead(11, 2, 1).ok(),
		store(0, 31, 7).ok(), load(0, 127).word(7), load(11, 31).word(7), load(11, 95).word(7),
		store(0, 127, 8).fails(api.ErrProt), store(11, 31, 8).fails(api.ErrProt), store(0, 32, 8).fails(api.ErrFault),
		unmap(0, 0).ok(), load(0, 31).fails(api.ErrFault), load(0, 127).word(7), load(11, 31).word(7),
	)
}

func TestMapErrors(t *testing.T) {
	has := []step{alloc(0).is(1), alloc(11).is(1), mapRead(0, 0, 1).ok(), mapWrite(0, 3, 1).ok(), mapWrite(11, 3, 1).ok()}
	for _, env := range noEnvs() {
		play(t, 3, append(has, mapRead(env, 0, 1).fails(api.ErrArg), mapWrite(env, 0, 1).fails(api.ErrArg), mapRead(env, 4, 0).fails(api.ErrArg), unmap(env, 0).fails(api.ErrArg), unmap(env, 4).fails(api.ErrArg), at(env, 0).none())...)
	}
	for _, page := range noPages() {
		play(t, 3, append(has, mapRead(0, page, 1).fails(api.ErrArg), mapWrite(11, page, 1).fails(api.ErrArg), mapRead(0, page, 2).fails(api.ErrArg), mapRead(0, page, 0).fails(api.ErrArg), unmap(0, page).fails(api.ErrArg), at(0, page).none())...)
	}
	for _, slot := range append(noSlots(), 2, api.MaxCaps) {
		play(t, 3, append(has, mapRead(0, 0, slot).fails(api.ErrCap), mapWrite(11, 3, slot).fails(api.ErrCap))...)
	}
}

func TestUnmap(t *testing.T) {
	for page := range api.MaxPages {
		play(t, 2,
			alloc(1).is(1), alloc(2).is(1), mapWrite(2, page, 1).ok(),
			unmap(1, page).fails(api.ErrFault),
			mapRead(1, page, 1).ok(),
			unmap(1, page).ok(), at(1, page).none(), at(2, page).bothWays(1),
			unmap(1, page).fails(api.ErrFault),
			mapWrite(1, page, 1).ok(), at(1, page).bothWays(0),
			unmap(1, page).ok(), at(1, page).none(), refs(1, 1).is(1), left().is(0),
		)
	}
}

// 9.2: each page's first and last word, read and written by address and by slot.
func TestLoadAndStoreThroughEachPage(t *testing.T) {
	for page := range api.MaxPages {
		first := uint64(page) * api.PageWords
		last := first + api.PageWords - 1
		play(t, 2,
			alloc(3).is(1), alloc(1).is(1),
			load(1, first).fails(api.ErrFault), load(1, last).fails(api.ErrFault),
			store(1, first, 5).fails(api.ErrFault), store(1, last, 5).fails(api.ErrFault),
			mapRead(1, page, 1).ok(),
			write(1, 1, 0, 11).ok(), write(1, 1, 31, math.MaxUint64).ok(),
			load(1, first).word(11), load(1, last).word(math.MaxUint64), load(1, first+1).word(0),
			store(1, first, 5).fails(api.ErrProt), store(1, last, 5).fails(api.ErrProt),
			mapWrite(1, page, 1).ok(),
			store(1, first, 12).ok(), store(1, last, 13).ok(), store(1, first+9, 14).ok(),
			load(1, first).word(12), load(1, last).word(13), load(1, first+9).word(14),
			read(1, 1, 0).word(12), read(1, 1, 31).word(13), read(1, 1, 9).word(14), read(1, 1, 8).word(0),
			load(1, (first+api.PageWords)%api.MaxWords).fails(api.ErrFault),
			store(1, (last+api.PageWords)%api.MaxWords, 1).fails(api.ErrFault),
			load(3, first).fails(api.ErrFault), store(3, last, 1).fails(api.ErrFault),
		)
	}
}

func TestLoadAndStoreErrors(t *testing.T) {
	has := []step{alloc(0).is(1), mapWrite(0, 0, 1).ok(), mapRead(0, 1, 1).ok(), mapWrite(0, 3, 1).ok(), write(0, 1, 0, 6).ok(), write(0, 1, 31, 7).ok()}
	for _, env := range noEnvs() {
		play(t, 1, append(has, load(env, 0).fails(api.ErrArg), store(env, 0, 1).fails(api.ErrArg), load(env, 128).fails(api.ErrArg), store(env, 32, 1).fails(api.ErrArg))...)
	}
	for _, addr := range noAddrs() {
		play(t, 1, append(has, load(0, addr).fails(api.ErrFault), store(0, addr, 1).fails(api.ErrFault))...)
	}
	play(t, 1, append(has, load(0, 127).word(7), load(0, 96).word(6), load(0, 64).fails(api.ErrFault), store(0, 64, 1).fails(api.ErrFault), load(0, 32).word(6), store(0, 32, 1).fails(api.ErrProt), store(0, 63, 1).fails(api.ErrProt))...)
}

// What one stores, another one that shares the frame loads; and who has another frame at that address does not.
func TestSharedAndOwn(t *testing.T) {
	play(t, 3,
		alloc(1).is(1), alloc(3).is(1), grant(1, 1, 2, r|w).is(1),
		mapWrite(1, 0, 1).ok(), mapWrite(2, 1, 1).ok(), mapWrite(3, 0, 1).ok(),
		store(1, 4, 40).ok(), load(2, 36).word(40), load(3, 4).word(0), read(2, 1, 4).word(40),
		store(2, 36, 41).ok(), load(1, 4).word(41), load(3, 4).word(0),
		store(3, 4, 42).ok(), load(1, 4).word(41), load(2, 36).word(41),
		write(2, 1, 4, 43).ok(), load(1, 4).word(43), read(1, 1, 4).word(43), read(3, 1, 4).word(42),
	)
}

// 9.2: Copy asks for RightWrite of the one and RightRead of the other.
func TestCopyWithEachRights(t *testing.T) {
	for to := 1; to <= all; to++ {
		for from := 1; from <= all; from++ {
			may := to&w != 0 && from&r != 0
			k := fresh(t, 2)
			wantAnswer(t, k, alloc(1).is(1))
			wantAnswer(t, k, alloc(1).is(2))
			wantAnswer(t, k, grant(1, 1, 2, to).is(1))
			wantAnswer(t, k, grant(1, 2, 2, from).is(2))
			for word := range api.PageWords {
				wantAnswer(t, k, write(1, 1, word, uint64(100+word)).ok())
				wantAnswer(t, k, write(1, 2, word, uint64(200+word)).ok())
			}
			wantAnswer(t, k, copied(2, 1, 2).fails(capElse(!may, api.OK)))
			for word := range api.PageWords {
				want := uint64(100 + word)
				if may {
					want += 100
				}
				wantAnswer(t, k, read(1, 1, word).word(want))
				wantAnswer(t, k, read(1, 2, word).word(uint64(200+word)))
			}
		}
	}
}

func TestCopyOntoItself(t *testing.T) {
	play(t, 2,
		alloc(1).is(1), write(1, 1, 0, 5).ok(), write(1, 1, 31, 6).ok(),
		copied(1, 1, 1).ok(), read(1, 1, 0).word(5), read(1, 1, 31).word(6), read(1, 1, 1).word(0),
		grant(1, 1, 2, r).is(1), grant(1, 1, 2, w).is(2),
		copied(2, 2, 1).ok(), read(1, 1, 0).word(5), read(1, 1, 31).word(6),
		copied(2, 1, 2).fails(api.ErrCap), copied(2, 1, 1).fails(api.ErrCap), copied(2, 2, 2).fails(api.ErrCap),
	)
}

// A copy is of the words as they are: what is written later to the one is not in the other.
func TestCopyIsNoSharing(t *testing.T) {
	play(t, 2,
		alloc(1).is(1), alloc(1).is(2), write(1, 1, 3, 5).ok(), write(1, 2, 4, 6).ok(),
		copied(1, 2, 1).ok(), read(1, 2, 3).word(5), read(1, 2, 4).word(0), read(1, 1, 3).word(5),
		write(1, 1, 3, 7).ok(), read(1, 2, 3).word(5),
		write(1, 2, 3, 8).ok(), read(1, 1, 3).word(7),
	)
}

func TestCopyErrors(t *testing.T) {
	has := []step{alloc(1).is(1), alloc(1).is(2), alloc(2).is(1), write(1, 1, 3, 5).ok(), write(1, 2, 3, 6).ok()}
	for _, env := range noEnvs() {
		play(t, 3, append(has, copied(env, 1, 2).fails(api.ErrCap))...)
	}
	for _, slot := range append(noSlots(), 3, api.MaxCaps) {
		play(t, 3, append(has, copied(1, slot, 1).fails(api.ErrCap), copied(1, 1, slot).fails(api.ErrCap), copied(1, slot, slot).fails(api.ErrCap))...)
	}
	play(t, 3, append(has, copied(2, 1, 2).fails(api.ErrCap), copied(2, 2, 1).fails(api.ErrCap), copied(0, 1, 2).fails(api.ErrCap))...)
}

// 9.2: Read asks for RightRead, Write for RightWrite, both ahead of the word.
func TestReadAndWriteWithEachRights(t *testing.T) {
	for rights := 1; rights <= all; rights++ {
		steps := []step{alloc(1).is(1), grant(1, 1, 2, rights).is(1), write(1, 1, 0, 5).ok(), write(1, 1, 31, 6).ok()}
		if rights&r != 0 {
			steps = append(steps, read(2, 1, 0).word(5), read(2, 1, 31).word(6), read(2, 1, 30).word(0))
		} else {
			steps = append(steps, read(2, 1, 0).fails(api.ErrCap), read(2, 1, 31).fails(api.ErrCap))
		}
		if rights&w != 0 {
			steps = append(steps, write(2, 1, 0, 7).ok(), write(2, 1, 31, math.MaxUint64).ok(), read(1, 1, 0).word(7), read(1, 1, 31).word(math.MaxUint64), read(1, 1, 1).word(0))
		} else {
			steps = append(steps, write(2, 1, 0, 7).fails(api.ErrCap), write(2, 1, 31, 8).fails(api.ErrCap), read(1, 1, 0).word(5))
		}
		for _, word := range noWords() {
			steps = append(steps, read(2, 1, word).fails(capElse(rights&r == 0, api.ErrArg)), write(2, 1, word, 9).fails(capElse(rights&w == 0, api.ErrArg)))
		}
		play(t, 2, steps...)
	}
}

func TestReadAndWriteErrors(t *testing.T) {
	has := []step{alloc(0).is(1), alloc(11).is(1), write(0, 1, 3, 5).ok()}
	for _, env := range noEnvs() {
		play(t, 3, append(has, read(env, 1, 3).fails(api.ErrCap), write(env, 1, 3, 6).fails(api.ErrCap), read(env, 1, 32).fails(api.ErrCap), write(env, 1, -1, 6).fails(api.ErrCap))...)
	}
	for _, slot := range append(noSlots(), 2, api.MaxCaps) {
		play(t, 3, append(has, read(0, slot, 3).fails(api.ErrCap), write(11, slot, 3, 6).fails(api.ErrCap), read(0, slot, -1).fails(api.ErrCap), write(11, slot, 32, 6).fails(api.ErrCap))...)
	}
	play(t, 3, append(has, read(5, 1, 3).fails(api.ErrCap), write(5, 1, 3, 6).fails(api.ErrCap))...)
}

func TestEachWord(t *testing.T) {
	k := play(t, 2, alloc(1).is(1), alloc(1).is(2), mapWrite(1, 1, 2).ok())
	for word := range api.PageWords {
		wantAnswer(t, k, write(1, 1, word, uint64(word+1)).ok())
		wantAnswer(t, k, store(1, uint64(32+word), uint64(word+101)).ok())
	}
	for word := range api.PageWords {
		wantAnswer(t, k, read(1, 1, word).word(uint64(word+1)))
		wantAnswer(t, k, read(1, 2, word).word(uint64(word+101)))
		wantAnswer(t, k, load(1, uint64(32+word)).word(uint64(word+101)))
	}
}

// 9.3: Refs counts all capabilities for the frame, Slot answers the lowest of one's own.
func TestRefsAndSlot(t *testing.T) {
	play(t, 3,
		alloc(1).is(1), alloc(1).is(2), refs(1, 1).is(1), refs(1, 2).is(1), slotOf(2, 1).is(0),
		grant(1, 2, 2, all).is(1), grant(1, 2, 2, w).is(2), grant(2, 1, 1, g).is(3), grant(1, 2, 11, r).is(1),
		refs(1, 1).is(1), refs(1, 2).is(5), refs(1, 3).is(5), refs(2, 1).is(5), refs(2, 2).is(5), refs(11, 1).is(5), refs(1, 4).is(0),
		slotOf(1, 0).is(1), slotOf(1, 1).is(2), slotOf(2, 0).is(0), slotOf(2, 1).is(1), slotOf(11, 1).is(1), slotOf(1, 2).is(0), slotOf(0, 0).is(0),
		free(1, 2).ok(), refs(1, 3).is(4), refs(1, 2).is(0), slotOf(1, 1).is(3), slotOf(2, 1).is(1),
		free(2, 1).ok(), slotOf(2, 1).is(2), refs(2, 2).is(3),
		alloc(1).is(2), slotOf(1, 2).is(2), refs(1, 2).is(1), slotOf(1, 1).is(3),
	)
	k := play(t, 2, alloc(0).is(1), alloc(11).is(1))
	for _, env := range noEnvs() {
		wantAnswer(t, k, refs(env, 1).is(0))
		wantAnswer(t, k, slotOf(env, 0).is(0))
		wantAnswer(t, k, slotOf(env, -1).is(0))
	}
	for _, slot := range append(noSlots(), 2, api.MaxCaps) {
		wantAnswer(t, k, refs(0, slot).is(0))
		wantAnswer(t, k, refs(11, slot).is(0))
	}
	for _, frame := range []int{-1, 2, 3, api.MaxFrames, -1 << 40, 1 << 40, 1 << 32, math.MinInt, math.MaxInt} {
		wantAnswer(t, k, slotOf(0, frame).is(0))
		wantAnswer(t, k, slotOf(11, frame).is(0))
		wantAnswer(t, k, slotOf(5, frame).is(0))
	}
}

// 9.3: Left counts frames, not capabilities.
func TestLeft(t *testing.T) {
	play(t, 3,
		left().is(3), alloc(1).is(1), left().is(2), grant(1, 1, 2, r).is(1), left().is(2), mapRead(2, 0, 1).ok(), left().is(2),
		alloc(2).is(2), left().is(1), revoke(1, 1).ok(), left().is(1), free(1, 1).ok(), left().is(2), gone(2).ok(), left().is(3),
	)
}

// A kernel keeps nothing that another one has.
func TestKernelsApart(t *testing.T) {
	a, b := fresh(t, 2), fresh(t, 2)
	was := look(2, doer(b))
	for _, s := range []step{alloc(1).is(1), write(1, 1, 0, 5).ok(), mapWrite(1, 0, 1).ok(), grant(1, 1, 2, all).is(1)} {
		wantAnswer(t, a, s)
	}
	wantSame(t, call{}, look(2, doer(b)), was)
	wantAnswer(t, b, alloc(1).is(1))
	wantAnswer(t, b, read(1, 1, 0).word(0))
	wantAnswer(t, a, read(1, 1, 0).word(5))
}

// R4: an answer stays as it was, whatever is done behind it.
func TestAnswersAreKept(t *testing.T) {
	k := play(t, 2, alloc(1).is(1), alloc(1).is(2), mapWrite(1, 0, 2).ok(), write(1, 2, 0, 5).ok())
	page, _ := k.Page(1, 0)
	word, _ := k.Read(1, 2, 0)
	page.Frame, page.Writable = 0, false
	wantAnswer(t, k, at(1, 0).bothWays(1))
	k.Map(1, 0, 1, false)
	k.Write(1, 2, 0, 6)
	if page != (api.Page{}) || word != 5 {
		t.Errorf("the answers became %v, %d", page, word)
	}
}

func everyCall(env, slot, page, word int, addr uint64) []call {
	return []call{
		alloc(env), grant(env, slot, env, 1), free(env, slot), revoke(env, slot), mapRead(env, page, slot), mapWrite(env, page, slot), unmap(env, page),
		load(env, addr), store(env, addr, 1), copied(env, slot, slot), read(env, slot, word), write(env, slot, word, 1),
		gone(env), left(), refs(env, slot), at(env, page), slotOf(env, word),
	}
}

func TestNil(t *testing.T) {
	var k *exomem.Kernel
	quiet := []string{"Gone", "Left", "Refs", "Page", "Slot"}
	for _, n := range []int{0, 1, -1, 3, 64, math.MinInt, math.MaxInt} {
		for _, c := range everyCall(n, n, n, n, uint64(n)) {
			want := answer{e: api.ErrArg}
			if slices.Contains(quiet, c.name) {
				want = answer{}
			}
			if got := c.on(k); got != want {
				t.Errorf("on nil %v answers %v, want %v", c, got, want)
			}
		}
	}
}

// R1: no call panics, on a kernel that New did not make, either; that one has no frames.
func TestWhatNewDidNotMake(t *testing.T) {
	k := &exomem.Kernel{}
	for _, n := range []int{0, 1, -1, 3, 64, math.MinInt, math.MaxInt} {
		for _, c := range everyCall(n, n, n, n, uint64(n)) {
			got := c.on(k)
			if got.e = api.OK; got != (answer{}) {
				t.Errorf("%v answers %v", c, got)
			}
		}
	}
}

// R1: no call panics whatever numbers it is given, in each place.
func TestAnyNumbers(t *testing.T) {
	numbers := []int{math.MinInt, -1, 0, 1, 3, 4, 11, 12, 31, 32, 64, 65, math.MaxInt}
	k := play(t, 3, alloc(0).is(1), alloc(1).is(1), grant(1, 1, 0, all).is(2), mapWrite(1, 0, 1).ok())
	for _, env := range numbers {
		for _, a := range numbers {
			for _, b := range numbers {
				for _, c := range everyCall(env, a, b, b, uint64(a)) {
					got := c.on(k)
					if got.e != api.OK && got != (answer{e: got.e}) {
						t.Errorf("%v answers %v", c, got)
					}
				}
			}
		}
	}
}
