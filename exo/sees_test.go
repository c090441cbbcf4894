package exo_test

import (
	"slices"
	"testing"

	"janus/api"
)

// 13.2: one that does not live sees nothing; one that has nothing sees that it lives, and that no message waits.
func TestSeesNothing(t *testing.T) {
	k := played(t)
	for _, env := range append(append(noEnvs(), far()...), 4, 5, 6, 7, 8, 9, 10) {
		wantSees(t, k, env, nil)
	}
	wantSees(t, k, 0, lives().waits(0))
	wantSees(t, k, lastEnv, lives().waits(0))
}

// 13.2: who sees what behind it, in a row in which each call changes what is seen.
func TestSeesBehindEachCall(t *testing.T) {
	k := fresh(t, usual())
	one := func(s step, want []uint64) {
		t.Helper()
		wantAnswer(t, k, s)
		wantSees(t, k, 1, want)
	}
	one(alloc(1).is(1), lives().frame(1, 0, all, zeros()).waits(0))
	one(alloc(2).is(1), lives().frame(1, 0, all, zeros()).waits(0))
	one(alloc(1).is(2), lives().frame(1, 0, all, zeros()).frame(2, 2, all, zeros()).waits(0))
	one(write(1, 2, 31, 6).ok(), lives().frame(1, 0, all, zeros()).frame(2, 2, all, with(31, 6)).waits(0))
	one(copied(1, 1, 2).ok(), lives().frame(1, 0, all, with(31, 6)).frame(2, 2, all, with(31, 6)).waits(0))
	two := lives().frame(1, 0, all, with(31, 6)).frame(2, 2, all, with(31, 6))
	one(grant(2, 1, 1, g).is(3), two.frame(3, 1, g, zeros()).waits(0))
	one(write(2, 1, 0, 5).ok(), two.frame(3, 1, g, with(0, 5)).waits(0))
	three := two.frame(3, 1, g, with(0, 5))
	one(mapRead(1, 3, 2).ok(), three.page(3, 2, 0).waits(0))
	one(mapWrite(1, 1, 1).ok(), three.page(1, 0, 1).page(3, 2, 0).waits(0))
	one(mapRead(1, 1, 1).ok(), three.page(1, 0, 0).page(3, 2, 0).waits(0))
	one(mapWrite(1, 0, 2).ok(), three.page(0, 2, 1).page(1, 0, 0).page(3, 2, 0).waits(0))
	one(store(1, 31, 0).ok(), lives().frame(1, 0, all, with(31, 6)).frame(2, 2, all, zeros()).frame(3, 1, g, with(0, 5)).page(0, 2, 1).page(1, 0, 0).page(3, 2, 0).waits(0))
	one(unmap(1, 3).ok(), lives().frame(1, 0, all, with(31, 6)).frame(2, 2, all, zeros()).frame(3, 1, g, with(0, 5)).page(0, 2, 1).page(1, 0, 0).waits(0))
	one(free(1, 2).ok(), lives().frame(1, 0, all, with(31, 6)).frame(3, 1, g, with(0, 5)).page(1, 0, 0).waits(0))
	one(revoke(2, 1).ok(), lives().frame(1, 0, all, with(31, 6)).page(1, 0, 0).waits(0))
	one(free(1, 1).ok(), lives().waits(0))
	one(alloc(1).is(1), lives().frame(1, 0, all, zeros()).waits(0))
	one(free(1, 1).ok(), lives().waits(0))
	one(allocBlocks(1, 3, 2).is(1), lives().extent(1, 3, all, zeros(), zeros()).waits(0))
	one(put(1, 1, 4, words(4)).ok(), lives().extent(1, 3, all, zeros(), words(4)).waits(0))
	one(get(1, 1, 3).is(zeros()...), lives().extent(1, 3, all, zeros(), words(4)).waits(0))
	one(allocBlocks(2, 0, 1).is(1), lives().extent(1, 3, all, zeros(), words(4)).waits(0))
	one(grantBlocks(2, 1, 1, w).is(2), lives().extent(1, 3, all, zeros(), words(4)).extent(2, 0, w, zeros()).waits(0))
	one(put(1, 2, 0, words(7)).ok(), lives().extent(1, 3, all, zeros(), words(4)).extent(2, 0, w, words(7)).waits(0))
	one(grantBlocks(1, 1, 1, r|g).is(3), lives().extent(1, 3, all, zeros(), words(4)).extent(2, 0, w, words(7)).extent(3, 3, r|g, zeros(), words(4)).waits(0))
	one(revokeBlocks(2, 1).ok(), lives().extent(1, 3, all, zeros(), words(4)).extent(3, 3, r|g, zeros(), words(4)).waits(0))
	one(revokeBlocks(1, 1).ok(), lives().extent(1, 3, all, zeros(), words(4)).waits(0))
	one(send(2, 1, 9, 9).ok(), lives().extent(1, 3, all, zeros(), words(4)).waits(1))
	one(send(1, 1).ok(), lives().extent(1, 3, all, zeros(), words(4)).waits(2))
	one(send(1, 2).ok(), lives().extent(1, 3, all, zeros(), words(4)).waits(2))
	one(recv(1).is(2, 9, 9), lives().extent(1, 3, all, zeros(), words(4)).waits(1))
	one(recv(1).is(1), lives().extent(1, 3, all, zeros(), words(4)).waits(0))
	wantSees(t, k, 2, lives().frame(1, 1, all, with(0, 5)).extent(1, 0, all, words(7)).waits(1))
}

// 13.2: all of it at once, in its order.
func TestSeesInOrder(t *testing.T) {
	k := play(t, usual(),
		allocBlocks(1, 6, 1).is(1), send(2, 1).ok(), alloc(1).is(1), mapWrite(1, 2, 1).ok(), allocBlocks(1, 0, 1).is(2), alloc(1).is(2), mapRead(1, 1, 2).ok(),
		write(1, 1, 0, 11).ok(), write(1, 2, 0, 12).ok(), put(1, 1, 6, words(13)).ok(), put(1, 2, 0, words(14)).ok(), send(3, 1, 5).ok(),
	)
	wantSees(t, k, 1, lives().
		frame(1, 0, all, with(0, 11)).frame(2, 1, all, with(0, 12)).
		page(1, 1, 0).page(2, 0, 1).
		extent(1, 6, all, words(13)).extent(2, 0, all, words(14)).
		waits(2))
}

// Each right, for a frame and for an extent: what one has is seen whether or not it may be read.
func TestSeesRights(t *testing.T) {
	for rights := uint64(1); rights <= all; rights++ {
		k := play(t, usual(),
			alloc(1).is(1), write(1, 1, 5, 50).ok(), grant(1, 1, 2, rights).is(1), allocBlocks(1, 1, 2).is(1), put(1, 1, 2, words(8)).ok(), grantBlocks(1, 1, 2, rights).is(1),
			free(1, 1).ok(), revokeBlocks(2, 1).ok(),
		)
		wantSees(t, k, 2, lives().frame(1, 0, rights, with(5, 50)).extent(1, 1, rights, zeros(), words(8)).waits(0))
		wantSees(t, k, 1, lives().extent(1, 1, all, zeros(), words(8)).waits(0))
	}
}

// All slots and all pages, rising, with slots that are free between them.
func TestSeesAllSlots(t *testing.T) {
	s := size{api.MaxCaps + 1, api.MaxCaps + 1, []int{1, 2}}
	k := fresh(t, s)
	wantAnswer(t, k, alloc(2).is(1))
	wantAnswer(t, k, allocBlocks(2, 0, 1).is(1))
	for slot := uint64(1); slot <= api.MaxCaps; slot++ {
		wantAnswer(t, k, alloc(1).is(slot))
		wantAnswer(t, k, write(1, slot, slot%32, slot).ok())
		wantAnswer(t, k, allocBlocks(1, api.MaxCaps+1-slot, 1).is(slot))
		wantAnswer(t, k, put(1, slot, api.MaxCaps+1-slot, words(slot)).ok())
	}
	for page := uint64(0); page < api.MaxPages; page++ {
		wantAnswer(t, k, mapWrite(1, page, api.MaxCaps-page).ok())
	}
	wantSees(t, k, 1, allSlots(func(uint64) bool { return true }))
	for _, slot := range []uint64{1, 2, 30, api.MaxCaps} {
		wantAnswer(t, k, free(1, slot).ok())
	}
	wantSees(t, k, 1, allSlots(func(slot uint64) bool { return !slices.Contains([]uint64{1, 2, 30, api.MaxCaps}, slot) }))
}

// allSlots is what one sees who has, in each slot that is left, a frame, and in all slots blocks from the last one down.
func allSlots(left func(slot uint64) bool) []uint64 {
	s := lives()
	for slot := uint64(1); slot <= api.MaxCaps; slot++ {
		if left(slot) {
			s = s.frame(slot, slot, all, with(int(slot%32), slot))
		}
	}
	for page := uint64(0); page < api.MaxPages; page++ {
		if left(api.MaxCaps - page) {
			s = s.page(page, api.MaxCaps-page, 1)
		}
	}
	for slot := uint64(1); slot <= api.MaxCaps; slot++ {
		s = s.extent(slot, api.MaxCaps+1-slot, all, words(slot))
	}
	return s.waits(0)
}

// An extent of all blocks, of a disk as great as may be.
func TestSeesAllBlocks(t *testing.T) {
	k := fresh(t, size{1, api.MaxBlocks, []int{1}})
	wantAnswer(t, k, allocBlocks(1, 0, api.MaxBlocks).is(1))
	var blocks [][]uint64
	for block := uint64(0); block < api.MaxBlocks; block++ {
		wantAnswer(t, k, put(1, 1, block, words(block)).ok())
		blocks = append(blocks, words(block))
	}
	wantSees(t, k, 1, lives().extent(1, 0, all, blocks...).waits(0))
	for block, want := range blocks {
		wantWords(t, "Block", k.Block(block), want)
	}
}

func TestSeesHowManyWait(t *testing.T) {
	k := fresh(t, usual())
	for n := uint64(1); n <= api.MaxQueue; n++ {
		wantAnswer(t, k, send(2, 1, n).ok())
		wantSees(t, k, 1, lives().waits(n))
		wantSees(t, k, 2, lives().waits(0))
	}
	wantAnswer(t, k, send(2, 1, 5).fails(api.ErrFull))
	wantSees(t, k, 1, lives().waits(api.MaxQueue))
	for n := uint64(api.MaxQueue); n > 0; n-- {
		wantAnswer(t, k, recv(1).is(2, api.MaxQueue+1-n))
		wantSees(t, k, 1, lives().waits(n-1))
	}
}

// 13.2: to ask changes nothing that a later call could tell.
func TestToAskChangesNothing(t *testing.T) {
	for _, calls := range later(usual()) {
		a, b := played(t), played(t)
		for range 3 {
			look(a, usual())
		}
		wantSame(t, call{}, look(a, usual()), look(a, usual()))
		for _, c := range calls {
			if got, want := c.on(a), c.on(b); !got.same(want) {
				t.Errorf("behind Sees, %v answers %v, want %v", c, got, want)
			}
			look(a, usual())
		}
		wantSame(t, calls[0], look(a, usual()), look(b, usual()))
	}
}

// 13.2: Frame tells a frame's words, whoever has it, and as they were left when nobody does; those of one that is had again are 0.
func TestFrame(t *testing.T) {
	k := fresh(t, usual())
	frames := func(behind step, want ...[]uint64) {
		t.Helper()
		wantAnswer(t, k, behind)
		for frame := range 4 {
			l := zeros()
			if frame < len(want) {
				l = want[frame]
			}
			wantWords(t, "Frame", k.Frame(frame), l)
		}
	}
	frames(recv(1).fails(api.ErrNone))
	frames(alloc(1).is(1))
	frames(write(1, 1, 0, 5).ok(), with(0, 5))
	frames(alloc(2).is(1), with(0, 5))
	frames(write(2, 1, 31, top).ok(), with(0, 5), with(31, top))
	frames(mapWrite(2, 3, 1).ok(), with(0, 5), with(31, top))
	frames(store(2, 127, 8).ok(), with(0, 5), with(31, 8))
	frames(store(2, 96, 9).ok(), with(0, 5), slices.Concat([]uint64{9}, with(30, 8)[:31]))
	frames(grant(1, 1, 2, r).is(2), with(0, 5), slices.Concat([]uint64{9}, with(30, 8)[:31]))
	frames(copied(2, 1, 2).ok(), with(0, 5), with(0, 5))
	frames(free(2, 1).ok(), with(0, 5), with(0, 5))
	frames(alloc(3).is(1), with(0, 5))
	frames(free(1, 1).ok(), with(0, 5))
	frames(free(2, 2).ok(), with(0, 5))
	frames(alloc(1).is(1))
}

func TestFrameAndBlockOfWhatThereIsNot(t *testing.T) {
	for _, s := range []size{{1, 1, []int{1}}, {4, 8, []int{1}}, {api.MaxFrames, api.MaxBlocks, []int{1}}} {
		k := fresh(t, s)
		for _, n := range append(far(), -1, -2, -32) {
			wantWords(t, "Frame", k.Frame(n), nil)
			wantWords(t, "Block", k.Block(n), nil)
		}
		for n := range 3 {
			wantWords(t, "Frame past the last", k.Frame(s.frames+n), nil)
			wantWords(t, "Block past the last", k.Block(s.blocks+n), nil)
		}
		wantWords(t, "the first Frame", k.Frame(0), zeros())
		wantWords(t, "the last Frame", k.Frame(s.frames-1), zeros())
		wantWords(t, "the first Block", k.Block(0), zeros())
		wantWords(t, "the last Block", k.Block(s.blocks-1), zeros())
	}
}

// 13.2: Block tells what a Get would, of blocks that anybody has and of others, ahead of any Get and behind it.
func TestBlock(t *testing.T) {
	k := fresh(t, usual())
	block := func(n int, want []uint64) {
		t.Helper()
		wantWords(t, "Block", k.Block(n), want)
	}
	do := func(steps ...step) {
		t.Helper()
		for _, s := range steps {
			wantAnswer(t, k, s)
		}
	}
	block(0, zeros())
	block(7, zeros())
	do(allocBlocks(1, 0, 8).is(1), put(1, 1, 7, words(7)).ok(), put(1, 1, 0, words(1)).ok())
	block(0, words(1))
	block(7, words(7))
	block(6, zeros())
	do(get(1, 1, 7).is(words(7)...), get(1, 1, 6).is(zeros()...), put(1, 1, 7, words(8)).ok())
	block(7, words(8))
	block(6, zeros())
	do(get(1, 1, 7).is(words(8)...), get(1, 1, 0).is(words(1)...))
	block(7, words(8))
	do(put(1, 1, 6, words(6)).ok(), put(2, 1, 6, words(9)).fails(api.ErrCap), get(1, 1, 6).is(words(6)...))
	block(6, words(6))
	for n := 1; n < 6; n++ {
		block(n, zeros())
	}
}

// What the parts of Sees tell of frames and blocks is what Frame and Block tell.
func TestSeesIsLikeFrameAndBlock(t *testing.T) {
	k := played(t)
	for frame, want := range [][]uint64{with(3, 9), with(0, 5), zeros(), zeros()} {
		wantWords(t, "Frame", k.Frame(frame), want)
	}
	for block := range 8 {
		want := zeros()
		if block == 3 {
			want = words(5)
		}
		wantWords(t, "Block", k.Block(block), want)
	}
	wantSees(t, k, 3, lives().frame(1, 1, r, k.Frame(1)).extent(1, 2, r, k.Block(2), k.Block(3), k.Block(4)).waits(0))
}
