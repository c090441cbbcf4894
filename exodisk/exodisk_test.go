package exodisk_test

import (
	"math"
	"slices"
	"testing"

	"janus/api"
	"janus/exodisk"
)

func TestExamples(t *testing.T) {
	play(t, 8,
		alloc(1, 2, 3).is(1),
		put(1, 1, 4, words(9)).ok(),
		get(1, 1, 4).has(words(9)),
		disk(4).has(zeros()),
		sync().is(1),
		disk(4).has(words(9)),
		get(1, 1, 5).fails(api.ErrCap),
		alloc(2, 4, 1).fails(api.ErrCap),
	)
}

// 12.1: a kernel is there where a disk is.
func TestNew(t *testing.T) {
	for _, blocks := range append(far(), 0, -1, api.MaxBlocks+1, api.MaxBlocks+2, -api.MaxBlocks) {
		if exodisk.New(blocks) != nil {
			t.Errorf("New(%d) is not nil", blocks)
		}
	}
	for _, blocks := range []int{1, 2, 31, api.MaxBlocks - 1, api.MaxBlocks} {
		m := fresh(t, blocks)
		wantAnswer(t, m, cached().are())
		wantAnswer(t, m, sync().is(0))
		for block := range blocks {
			wantAnswer(t, m, disk(block).has(zeros()))
		}
		wantAnswer(t, m, disk(blocks).has(nil))
		for env := range api.MaxEnvs {
			for _, slot := range []int{1, 2, api.MaxCaps} {
				for _, c := range []call{get(env, slot, 0), put(env, slot, 0, words(1)), revoke(env, slot), grant(env, slot, 0, r), viewGet(env, slot, 0), viewPut(env, slot, 0, words(1))} {
					wantAnswer(t, m, c.fails(api.ErrCap))
				}
			}
		}
		wantAnswer(t, m, cached().are())
		wantAnswer(t, m, alloc(1, 0, blocks).is(1))
		wantAnswer(t, m, get(1, 1, blocks-1).has(zeros()))
		wantAnswer(t, m, get(1, 1, 0).has(zeros()))
	}
}

// 12.1: whose blocks are nobody's may be had, with all rights, in the lowest free slot.
func TestAlloc(t *testing.T) {
	for _, env := range []int{0, 1, lastEnv} {
		for _, x := range [][2]int{{0, 1}, {0, 8}, {7, 1}, {3, 2}, {1, 7}} {
			first, n := x[0], x[1]
			m := play(t, 8, alloc(env, first, n).is(1), cached().are())
			wantExtent(t, m, 8, env, 1, first, n, all)
		}
	}
}

// wantExtent asks for which blocks the slot has which rights; the cache has those behind it that may be read.
func wantExtent(t *testing.T, m *machine, blocks, env, slot, first, n, rights int) {
	t.Helper()
	lacks := func(block, right int) bool { return block < first || block >= first+n || rights&right == 0 }
	for block := -2; block < blocks+2; block++ {
		if _, e := m.Get(env, slot, block); e != capElse(lacks(block, r), api.OK) {
			t.Errorf("Get(%d, %d, %d) answers error %d, of %d from %d on with rights %d", env, slot, block, e, n, first, rights)
		}
		if e := m.Put(env, slot, block, nil); e != capElse(lacks(block, w), api.ErrArg) {
			t.Errorf("Put(%d, %d, %d, nil) answers error %d, of %d from %d on with rights %d", env, slot, block, e, n, first, rights)
		}
	}
	for give := 1; give <= all; give++ {
		wantAnswer(t, m, grant(env, slot, -1, give).fails(capElse(rights&g == 0 || give&^rights != 0, api.ErrArg)))
	}
}

// capElse answers ErrCap if something is lacking.
func capElse(lacking bool, e api.Errno) api.Errno {
	if lacking {
		return api.ErrCap
	}
	return e
}

func TestAllocOfWhatIsNoEnvironment(t *testing.T) {
	for _, env := range noEnvs() {
		play(t, 4,
			alloc(env, 0, 1).fails(api.ErrArg), alloc(env, 0, 4).fails(api.ErrArg), alloc(env, 4, 1).fails(api.ErrArg), alloc(env, -1, 0).fails(api.ErrArg),
			alloc(0, 0, 1).is(1), alloc(lastEnv, 1, 1).is(1),
			alloc(env, 0, 1).fails(api.ErrArg), alloc(env, 2, 1).fails(api.ErrArg), // ahead of ErrCap
		)
	}
}

// 12.1: first and n, each alone and both, at all edges: just those that lie on the disk may be had.
func TestAllocAtTheEdges(t *testing.T) {
	for _, blocks := range []int{1, 2, 5, api.MaxBlocks} {
		edges := []int{-2, -1, 0, 1, 2, blocks - 2, blocks - 1, blocks, blocks + 1, math.MaxInt - blocks, math.MaxInt - blocks + 1, math.MinInt + blocks}
		edges = append(edges, far()...)
		for _, first := range edges {
			for _, n := range edges {
				m := fresh(t, blocks)
				// Without a sum: a block that has as many as n - 1 others behind it.
				may := first >= 0 && first < blocks && n >= 1 && n <= blocks && blocks-first >= n
				if got, e := m.Alloc(1, first, n); may != (got == 1 && e == api.OK) || !may && (got != 0 || e != api.ErrArg) {
					t.Errorf("of %d blocks: Alloc(1, %d, %d) = %d, %d", blocks, first, n, got, e)
				}
				if !may {
					wantAnswer(t, m, alloc(1, 0, blocks).is(1))
				} else if e := m.Put(1, 1, first, nil); e != api.ErrArg {
					t.Errorf("of %d blocks, behind Alloc(1, %d, %d): Put of the first answers %d", blocks, first, n, e)
				}
			}
		}
	}
}

func TestAllocRefusedChangesNothing(t *testing.T) {
	for _, first := range append(far(), -1, 0, 3, 4, 5) {
		for _, n := range append(far(), -1, 0, 5) {
			play(t, 4, alloc(1, 1, 1).is(1), alloc(2, first, n).fails(api.ErrArg), alloc(1, first, n).fails(api.ErrArg))
		}
	}
}

// 12.1: an extent that meets another one's, wherever, may not be had; one right beside it may.
func TestAllocOfWhatMeetsAnother(t *testing.T) {
	const blocks, first, n = 9, 3, 3
	for f := range blocks {
		for l := 1; f+l <= blocks; l++ {
			for _, env := range []int{1, 2} { // its own, too
				meets := f < first+n && f+l > first
				slot := 1
				if env == 1 {
					slot = 2
				}
				s := alloc(env, f, l).is(slot)
				if meets {
					s = alloc(env, f, l).fails(api.ErrCap)
				}
				play(t, blocks, alloc(1, first, n).is(1), s)
			}
		}
	}
}

// Whoever has one, with whatever rights, has it.
func TestAllocOfWhatWasGrantedOn(t *testing.T) {
	for rights := 1; rights <= all; rights++ {
		for _, to := range []int{0, 2, lastEnv} {
			play(t, 6,
				alloc(1, 2, 2).is(1), grant(1, 1, to, rights).is(1), gone(1).ok(),
				alloc(1, 2, 1).fails(api.ErrCap), alloc(1, 3, 1).fails(api.ErrCap), alloc(to, 0, 6).fails(api.ErrCap), alloc(5, 1, 2).fails(api.ErrCap), alloc(5, 3, 3).fails(api.ErrCap),
				alloc(1, 0, 2).is(1), alloc(1, 4, 2).is(2),
				gone(to).ok(),
				alloc(5, 2, 2).is(1),
			)
		}
	}
}

// A Revoke takes what was made of it, not the extent itself.
func TestAllocBehindRevoke(t *testing.T) {
	play(t, 6,
		alloc(1, 2, 2).is(1), grant(1, 1, 2, all).is(1), grant(2, 1, 3, r).is(1),
		revoke(1, 1).ok(),
		alloc(2, 2, 2).fails(api.ErrCap), alloc(1, 3, 1).fails(api.ErrCap),
		alloc(2, 4, 2).is(1),
		gone(1).ok(),
		alloc(2, 2, 2).is(2), alloc(3, 1, 1).is(1),
	)
	// The one of which it was made is gone: it is the last one, and a Revoke can't reach it.
	play(t, 6,
		alloc(1, 2, 2).is(1), grant(1, 1, 2, r|g).is(1), gone(1).ok(),
		revoke(1, 1).fails(api.ErrCap),
		alloc(1, 2, 2).fails(api.ErrCap),
		grant(2, 1, 3, r).is(1), gone(2).ok(),
		alloc(1, 3, 2).fails(api.ErrCap),
		gone(3).ok(),
		alloc(1, 3, 2).is(1),
	)
}

func TestAllocBehindGone(t *testing.T) {
	play(t, 6,
		alloc(1, 0, 2).is(1), alloc(1, 4, 2).is(2), alloc(2, 2, 2).is(1),
		alloc(3, 0, 1).fails(api.ErrCap),
		gone(1).ok(),
		alloc(3, 0, 3).fails(api.ErrCap), alloc(3, 1, 1).is(1), alloc(3, 4, 2).is(2), alloc(1, 0, 1).is(1),
		gone(2).ok(), gone(3).ok(),
		alloc(4, 1, 5).is(1),
	)
}

// full is a kernel in which environment 5 has a block in each slot, from block 1 on.
func full(t *testing.T) *machine {
	t.Helper()
	m := fresh(t, 80)
	for slot := 1; slot <= api.MaxCaps; slot++ {
		wantAnswer(t, m, alloc(5, slot, 1).is(slot))
	}
	return m
}

func TestAllocWithAllSlotsInUse(t *testing.T) {
	m := full(t)
	for _, s := range []step{
		alloc(5, 70, 1).fails(api.ErrFull), alloc(5, 0, 1).fails(api.ErrFull), alloc(5, 65, 15).fails(api.ErrFull),
		alloc(5, 0, 2).fails(api.ErrCap), alloc(5, 64, 1).fails(api.ErrCap), // ahead of ErrFull
		alloc(5, 80, 1).fails(api.ErrArg), alloc(5, 0, 0).fails(api.ErrArg), alloc(5, 1, 80).fails(api.ErrArg), // ahead of both
		alloc(4, 70, 1).is(1), alloc(4, 0, 1).is(2), // what was refused was not had
		alloc(5, 70, 1).fails(api.ErrCap),
		gone(5).ok(),
		alloc(5, 1, 64).is(1), alloc(5, 71, 9).is(2),
	} {
		wantAnswer(t, m, s)
	}
}

func TestAllocFullChangesNothing(t *testing.T) {
	a, b := full(t), full(t)
	wantAnswer(t, a, alloc(5, 70, 1).fails(api.ErrFull))
	wantAnswer(t, a, grant(5, 1, 5, r).fails(api.ErrFull))
	wantAnswer(t, a, alloc(5, 7, 1).fails(api.ErrCap))
	wantSame(t, 80, alloc(5, 70, 1), a, b)
}

// 12.1: Grant gives any of the giver's rights on, for the same extent, if RightGrant is among them.
func TestGrantEachOfEach(t *testing.T) {
	for own := 1; own <= all; own++ {
		for give := 1; give <= all; give++ {
			steps := []step{alloc(1, 2, 3).is(1), grant(1, 1, 2, own).is(1)}
			if own&g != 0 && give&^own == 0 {
				m := play(t, 8, append(steps, grant(2, 1, 3, give).is(1), cached().are())...)
				wantExtent(t, m, 8, 1, 1, 2, 3, all)
				wantExtent(t, m, 8, 2, 1, 2, 3, own)
				wantExtent(t, m, 8, 3, 1, 2, 3, give)
			} else {
				play(t, 8, append(steps, grant(2, 1, 3, give).fails(api.ErrCap))...)
			}
		}
	}
}

func TestGrantToOneself(t *testing.T) {
	m := play(t, 4, alloc(1, 0, 2).is(1), alloc(1, 3, 1).is(2), grant(1, 1, 1, w).is(3), grant(1, 2, 1, r|g).is(4), grant(1, 4, 1, r).is(5))
	wantExtent(t, m, 4, 1, 1, 0, 2, all)
	wantExtent(t, m, 4, 1, 2, 3, 1, all)
	wantExtent(t, m, 4, 1, 3, 0, 2, w)
	wantExtent(t, m, 4, 1, 4, 3, 1, r|g)
	wantExtent(t, m, 4, 1, 5, 3, 1, r)
}

func TestGrantErrors(t *testing.T) {
	has := []step{alloc(1, 0, 2).is(1), grant(1, 1, 2, r|g).is(1)}
	for _, to := range noEnvs() {
		play(t, 2, append(has, grant(1, 1, to, r).fails(api.ErrArg), grant(1, 2, to, r).fails(api.ErrCap), grant(2, 1, to, w).fails(api.ErrCap), grant(1, 1, to, 0).fails(api.ErrCap))...)
	}
	for _, env := range noEnvs() {
		play(t, 2, append(has, grant(env, 1, 2, r).fails(api.ErrCap), grant(env, 1, env, r).fails(api.ErrCap))...)
	}
	for _, slot := range append(noSlots(), 2, api.MaxCaps) {
		play(t, 2, append(has, grant(1, slot, 2, r).fails(api.ErrCap), grant(1, slot, -1, r).fails(api.ErrCap))...)
	}
	for _, rights := range noRights() {
		play(t, 2, append(has, grant(1, 1, 2, rights).fails(api.ErrCap), grant(2, 1, 3, rights).fails(api.ErrCap))...)
	}
}

func TestGrantToAFullOne(t *testing.T) {
	m := fresh(t, 2)
	wantAnswer(t, m, alloc(1, 0, 1).is(1))
	for slot := 1; slot <= api.MaxCaps; slot++ {
		wantAnswer(t, m, grant(1, 1, 2, r).is(slot))
	}
	for _, s := range []step{
		grant(1, 1, 2, r).fails(api.ErrFull), grant(1, 1, 2, 8).fails(api.ErrCap), grant(1, 1, -1, r).fails(api.ErrArg), alloc(2, 1, 1).fails(api.ErrFull),
		get(2, api.MaxCaps, 0).has(zeros()), get(2, api.MaxCaps+1, 0).fails(api.ErrCap),
		revoke(1, 1).ok(), get(2, api.MaxCaps, 0).fails(api.ErrCap), get(2, 1, 0).fails(api.ErrCap),
		alloc(2, 1, 1).is(1), grant(1, 1, 2, w).is(2),
	} {
		wantAnswer(t, m, s)
	}
}

func TestRevokeErrors(t *testing.T) {
	has := []step{alloc(0, 0, 1).is(1), alloc(lastEnv, 1, 1).is(1), grant(0, 1, lastEnv, all).is(2), grant(lastEnv, 2, 3, r).is(1)}
	for _, env := range noEnvs() {
		play(t, 3, append(has, revoke(env, 1).fails(api.ErrCap), revoke(env, 2).fails(api.ErrCap))...)
	}
	for _, slot := range append(noSlots(), 3, api.MaxCaps) {
		play(t, 3, append(has, revoke(0, slot).fails(api.ErrCap), revoke(lastEnv, slot).fails(api.ErrCap))...)
	}
}

// 12.1: a Revoke takes what was made of that one, whatever its rights, and so on; nothing else.
func TestRevokeOfAChain(t *testing.T) {
	chain := []step{
		alloc(0, 0, 3).is(1), alloc(3, 3, 1).is(1),
		grant(0, 1, 1, r|g).is(1), grant(1, 1, 2, r|g).is(1), grant(2, 1, lastEnv, r).is(1), grant(2, 1, 0, r).is(2), grant(0, 1, 3, all).is(2),
	}
	for _, x := range []struct {
		env, slot int
		left      []place
	}{
		{0, 1, []place{{0, 1}, {3, 1}}},
		{0, 2, []place{{0, 1}, {0, 2}, {1, 1}, {2, 1}, {lastEnv, 1}, {3, 1}, {3, 2}}},
		{1, 1, []place{{0, 1}, {1, 1}, {3, 1}, {3, 2}}},
		{2, 1, []place{{0, 1}, {1, 1}, {2, 1}, {3, 1}, {3, 2}}},
		{lastEnv, 1, []place{{0, 1}, {0, 2}, {1, 1}, {2, 1}, {lastEnv, 1}, {3, 1}, {3, 2}}},
		{3, 1, []place{{0, 1}, {0, 2}, {1, 1}, {2, 1}, {lastEnv, 1}, {3, 1}, {3, 2}}},
		{3, 2, []place{{0, 1}, {0, 2}, {1, 1}, {2, 1}, {lastEnv, 1}, {3, 1}, {3, 2}}},
	} {
		m := play(t, 4, append(chain, revoke(x.env, x.slot).ok())...)
		for env := range api.MaxEnvs {
			for slot := 1; slot <= 3; slot++ {
				_, e := m.Get(env, slot, 1)
				_, f := m.Get(env, slot, 3)
				if (e == api.OK || f == api.OK) != slices.Contains(x.left, place{env, slot}) {
					t.Errorf("behind Revoke(%d, %d): in slot %d of %d Get answers %d and %d", x.env, x.slot, slot, env, e, f)
				}
			}
		}
	}
}

// Gone of one leaves what it gave on, as made of what its own was made of.
func TestGone(t *testing.T) {
	chain := []step{alloc(1, 0, 2).is(1), alloc(2, 2, 1).is(1), grant(1, 1, 2, all).is(2), grant(2, 2, 3, all).is(1), grant(3, 1, 2, r).is(3), put(1, 1, 0, words(4)).ok()}
	m := play(t, 4, append(chain,
		gone(2).ok(),
		get(2, 1, 2).fails(api.ErrCap), get(2, 2, 0).fails(api.ErrCap), get(2, 3, 0).fails(api.ErrCap), put(2, 2, 0, words(5)).fails(api.ErrCap),
		get(3, 1, 0).has(words(4)), get(1, 1, 0).has(words(4)),
		alloc(2, 2, 1).is(1), grant(1, 1, 2, w).is(2),
		revoke(1, 1).ok(),
		get(3, 1, 0).fails(api.ErrCap), put(2, 2, 0, words(5)).fails(api.ErrCap), get(1, 1, 0).has(words(4)), get(2, 1, 2).has(zeros()),
	)...)
	wantExtent(t, m, 4, 1, 1, 0, 2, all)
	for _, env := range append(noEnvs(), 7) {
		wantSame(t, 4, gone(env), again(t, 4, append(chain, gone(env).ok())), again(t, 4, chain))
	}
}

// 12.2: who may get and put which blocks.
func TestGetAndPutByRights(t *testing.T) {
	for rights := 1; rights <= all; rights++ {
		for block := range 8 {
			covered := block >= 2 && block < 5
			m := play(t, 8, alloc(1, 2, 3).is(1), alloc(1, 0, 2).is(2), alloc(1, 5, 3).is(3), grant(1, 1, 2, rights).is(1))
			if covered && rights&r != 0 {
				wantAnswer(t, m, get(2, 1, block).has(zeros()))
				wantAnswer(t, m, cached().are(block))
			} else {
				wantAnswer(t, m, get(2, 1, block).fails(api.ErrCap))
				wantAnswer(t, m, cached().are())
			}
			if covered && rights&w != 0 {
				wantAnswer(t, m, put(2, 1, block, words(6)).ok())
				wantAnswer(t, m, cached().are(block))
				wantAnswer(t, m, sync().is(1))
				wantAnswer(t, m, disk(block).has(words(6)))
			} else {
				wantAnswer(t, m, put(2, 1, block, words(6)).fails(api.ErrCap))
				wantAnswer(t, m, sync().is(0))
				wantAnswer(t, m, disk(block).has(zeros()))
			}
		}
	}
}

// The capability must be the one in that slot, not another one that would do.
func TestGetAndPutByTheSlot(t *testing.T) {
	play(t, 6,
		alloc(1, 0, 2).is(1), alloc(1, 2, 2).is(2), grant(1, 1, 1, r).is(3), grant(1, 1, 1, w).is(4), grant(1, 1, 1, g).is(5),
		put(1, 1, 1, words(3)).ok(),
		get(1, 2, 1).fails(api.ErrCap), put(1, 2, 1, words(4)).fails(api.ErrCap),
		get(1, 1, 2).fails(api.ErrCap), put(1, 1, 2, words(4)).fails(api.ErrCap),
		get(1, 3, 1).has(words(3)), put(1, 3, 1, words(4)).fails(api.ErrCap),
		get(1, 4, 1).fails(api.ErrCap), put(1, 4, 1, words(5)).ok(), get(1, 3, 1).has(words(5)),
		get(1, 5, 1).fails(api.ErrCap), put(1, 5, 1, words(6)).fails(api.ErrCap),
		get(1, 6, 1).fails(api.ErrCap), put(1, 6, 1, words(6)).fails(api.ErrCap),
		get(2, 1, 1).fails(api.ErrCap), put(2, 1, 1, words(6)).fails(api.ErrCap),
		get(1, 1, 1).has(words(5)),
	)
}

func TestGetAndPutOfWhatThereIsNot(t *testing.T) {
	has := []step{alloc(1, 2, 3).is(1), alloc(0, 0, 1).is(1), alloc(lastEnv, 7, 1).is(1), grant(1, 1, 2, r).is(1), grant(1, 1, 3, w).is(1)}
	for _, block := range append(far(), -2, -1, 0, 1, 5, 6, 7, 8, 9, api.MaxBlocks) {
		for env := 1; env <= 3; env++ {
			play(t, 8, append(has, get(env, 1, block).fails(api.ErrCap), put(env, 1, block, words(1)).fails(api.ErrCap), put(env, 1, block, nil).fails(api.ErrCap))...)
		}
	}
	for _, slot := range append(noSlots(), 2, api.MaxCaps) {
		for _, env := range []int{0, 1, lastEnv} {
			play(t, 8, append(has, get(env, slot, 2).fails(api.ErrCap), get(env, slot, 0).fails(api.ErrCap), put(env, slot, 2, words(1)).fails(api.ErrCap), put(env, slot, 7, nil).fails(api.ErrCap))...)
		}
	}
	for _, env := range append(noEnvs(), 4) {
		play(t, 8, append(has, get(env, 1, 2).fails(api.ErrCap), get(env, 1, 0).fails(api.ErrCap), put(env, 1, 2, words(1)).fails(api.ErrCap), put(env, 1, 7, nil).fails(api.ErrCap))...)
	}
}

// 12.2: Put takes 32 words, no less and no more; without the right they do not count.
func TestPutOfWrongWords(t *testing.T) {
	for _, wrong := range wrongWords() {
		play(t, 8,
			alloc(1, 2, 3).is(1), grant(1, 1, 2, r|g).is(1), put(1, 1, 3, words(5)).ok(), get(1, 1, 4).has(zeros()),
			put(1, 1, 2, wrong).fails(api.ErrArg), put(1, 1, 3, wrong).fails(api.ErrArg), put(1, 1, 4, wrong).fails(api.ErrArg),
			put(1, 1, 5, wrong).fails(api.ErrCap), put(1, 1, 1, wrong).fails(api.ErrCap), put(1, 2, 3, wrong).fails(api.ErrCap), put(2, 1, 3, wrong).fails(api.ErrCap), put(-1, 1, 3, wrong).fails(api.ErrCap),
			get(1, 1, 3).has(words(5)), get(2, 1, 3).has(words(5)), cached().are(3, 4),
		)
	}
}

// How many words there are is told by a list's length, not by what lies behind its end.
func TestPutOfWordsWithMoreBehindTheEnd(t *testing.T) {
	long := slices.Concat(words(1), words(2))
	play(t, 1,
		alloc(1, 0, 1).is(1),
		put(1, 1, 0, long[:api.BlockWords]).ok(), get(1, 1, 0).has(words(1)),
		put(1, 1, 0, long[:api.BlockWords-1]).fails(api.ErrArg), put(1, 1, 0, long[:0]).fails(api.ErrArg), put(1, 1, 0, long[:api.BlockWords+1]).fails(api.ErrArg),
		put(1, 1, 0, long[api.BlockWords:]).ok(), get(1, 1, 0).has(words(2)),
	)
}

func TestPutOfTheLeastAndGreatestWords(t *testing.T) {
	for _, v := range []uint64{0, 1, 1<<63 - 1, 1 << 63, math.MaxUint64} {
		l := slices.Repeat([]uint64{v}, api.BlockWords)
		play(t, 1, alloc(1, 0, 1).is(1), put(1, 1, 0, l).ok(), get(1, 1, 0).has(l), sync().is(1), disk(0).has(l), get(1, 1, 0).has(l))
	}
}

func TestGetAndPutBehindRevokeAndGone(t *testing.T) {
	has := []step{alloc(1, 2, 3).is(1), grant(1, 1, 2, all).is(1), grant(2, 1, 3, r|w).is(1), put(3, 1, 2, words(1)).ok(), get(2, 1, 2).has(words(1))}
	play(t, 8, append(has,
		revoke(1, 1).ok(),
		get(2, 1, 2).fails(api.ErrCap), put(2, 1, 2, words(2)).fails(api.ErrCap), get(3, 1, 2).fails(api.ErrCap), put(3, 1, 2, words(2)).fails(api.ErrCap),
		get(1, 1, 2).has(words(1)), put(1, 1, 2, words(3)).ok(), get(1, 1, 2).has(words(3)),
	)...)
	play(t, 8, append(has,
		revoke(2, 1).ok(),
		get(2, 1, 2).has(words(1)), put(2, 1, 2, words(2)).ok(), get(3, 1, 2).fails(api.ErrCap), put(3, 1, 2, words(3)).fails(api.ErrCap), get(1, 1, 2).has(words(2)),
	)...)
	play(t, 8, append(has,
		gone(1).ok(),
		get(1, 1, 2).fails(api.ErrCap), put(1, 1, 2, words(2)).fails(api.ErrCap), get(2, 1, 2).has(words(1)), put(3, 1, 2, words(3)).ok(), get(2, 1, 2).has(words(3)),
	)...)
}

// 12.2: Get lets a block be there; only Put lets it be changed.
func TestCacheOfGet(t *testing.T) {
	play(t, 8,
		alloc(1, 0, 8).is(1), cached().are(), get(1, 1, 5).has(zeros()), cached().are(5), get(1, 1, 5).has(zeros()), cached().are(5), sync().is(0), cached().are(5),
		get(1, 1, 7).has(zeros()), get(1, 1, 0).has(zeros()), get(1, 1, 3).has(zeros()), cached().are(0, 3, 5, 7), sync().is(0), cached().are(0, 3, 5, 7), disk(5).has(zeros()),
	)
}

func TestCacheOfPut(t *testing.T) {
	play(t, 8,
		alloc(1, 0, 8).is(1),
		put(1, 1, 6, words(1)).ok(), cached().are(6), disk(6).has(zeros()), get(1, 1, 6).has(words(1)), cached().are(6), // one that was not there
		get(1, 1, 2).has(zeros()), put(1, 1, 2, words(2)).ok(), cached().are(2, 6), disk(2).has(zeros()), get(1, 1, 2).has(words(2)), // one that was
		put(1, 1, 6, words(3)).ok(), cached().are(2, 6), disk(6).has(zeros()), get(1, 1, 6).has(words(3)), // one that was changed
		sync().is(2), disk(6).has(words(3)), disk(2).has(words(2)), cached().are(2, 6),
		put(1, 1, 6, words(4)).ok(), disk(6).has(words(3)), get(1, 1, 6).has(words(4)), // one that was changed no more
		sync().is(1), disk(6).has(words(4)), disk(2).has(words(2)), sync().is(0),
	)
}

func TestSync(t *testing.T) {
	has := []step{alloc(1, 0, 8).is(1), sync().is(0), cached().are()}
	play(t, 8, append(has, get(1, 1, 3).has(zeros()), sync().is(0), sync().is(0), cached().are(3), disk(3).has(zeros()))...)
	play(t, 8, append(has, put(1, 1, 3, words(1)).ok(), get(1, 1, 4).has(zeros()), disk(3).has(zeros()), sync().is(1), disk(3).has(words(1)), disk(4).has(zeros()), sync().is(0), disk(3).has(words(1)), cached().are(3, 4))...)
	var steps []step
	for _, block := range []int{7, 0, 3, 4, 1} {
		steps = append(steps, put(1, 1, block, words(uint64(block+1))).ok())
	}
	steps = append(steps, cached().are(0, 1, 3, 4, 7), disk(7).has(zeros()), disk(0).has(zeros()), sync().is(5), cached().are(0, 1, 3, 4, 7))
	for block := range 8 {
		want := zeros()
		if slices.Contains([]int{7, 0, 3, 4, 1}, block) {
			want = words(uint64(block + 1))
		}
		steps = append(steps, disk(block).has(want), get(1, 1, block).has(want))
	}
	play(t, 8, append(append(has, steps...), sync().is(0))...)
}

// A block of the same words as ahead was put all the same; and it counts once, however often it was.
func TestSyncCountsBlocksThatWerePut(t *testing.T) {
	play(t, 2,
		alloc(1, 0, 2).is(1),
		put(1, 1, 0, zeros()).ok(), sync().is(1), sync().is(0),
		put(1, 1, 0, words(1)).ok(), put(1, 1, 0, words(2)).ok(), put(1, 1, 0, words(3)).ok(), sync().is(1), disk(0).has(words(3)),
		put(1, 1, 0, words(3)).ok(), sync().is(1), sync().is(0),
		put(1, 1, 0, words(4)).ok(), put(1, 1, 0, words(3)).ok(), sync().is(1), disk(0).has(words(3)),
		put(1, 1, 0, words(5)).ok(), get(1, 1, 0).has(words(5)), sync().is(1), disk(0).has(words(5)),
	)
}

// Sync writes what is changed, whoever put it and whether it is anybody's any more.
func TestSyncBehindRevokeAndGone(t *testing.T) {
	play(t, 4,
		alloc(1, 0, 2).is(1), alloc(2, 2, 2).is(1), grant(1, 1, 3, w).is(1),
		put(3, 1, 1, words(1)).ok(), put(2, 1, 3, words(2)).ok(),
		revoke(1, 1).ok(), gone(2).ok(), gone(3).ok(), gone(1).ok(),
		cached().are(1, 3), disk(1).has(zeros()), disk(3).has(zeros()),
		sync().is(2), disk(1).has(words(1)), disk(3).has(words(2)), cached().are(1, 3), sync().is(0),
	)
}

func TestSyncOfAllBlocks(t *testing.T) {
	m := fresh(t, api.MaxBlocks)
	wantAnswer(t, m, alloc(1, 0, api.MaxBlocks).is(1))
	var blocks []int
	for block := api.MaxBlocks - 1; block >= 0; block-- {
		wantAnswer(t, m, put(1, 1, block, words(uint64(block))).ok())
	}
	for block := range api.MaxBlocks {
		blocks = append(blocks, block)
		wantAnswer(t, m, disk(block).has(zeros()))
	}
	wantAnswer(t, m, cached().are(blocks...))
	wantAnswer(t, m, sync().is(api.MaxBlocks))
	for block := range api.MaxBlocks {
		wantAnswer(t, m, disk(block).has(words(uint64(block))))
		wantAnswer(t, m, get(1, 1, block).has(words(uint64(block))))
	}
	wantAnswer(t, m, sync().is(0))
}

// 12.2: Disk tells what the disk has, of blocks that are anybody's and of others.
func TestDisk(t *testing.T) {
	play(t, 4,
		disk(0).has(zeros()), disk(3).has(zeros()), cached().are(),
		alloc(1, 0, 2).is(1), put(1, 1, 1, words(1)).ok(), disk(1).has(zeros()), sync().is(1), disk(1).has(words(1)), gone(1).ok(), disk(1).has(words(1)),
		alloc(2, 1, 1).is(1), put(2, 1, 1, words(2)).ok(), disk(1).has(words(1)), disk(0).has(zeros()), disk(2).has(zeros()), cached().are(1),
	)
	for _, block := range append(far(), -2, -1, 4, 5, api.MaxBlocks) {
		play(t, 4, alloc(1, 0, 4).is(1), put(1, 1, 3, words(1)).ok(), disk(block).has(nil), sync().is(1), disk(block).has(nil), cached().are(3), disk(3).has(words(1)))
	}
}

// 12.4: what was put is got, before and behind Sync, by all who may, and by who has the block next.
func TestWhatWasPutIsGot(t *testing.T) {
	for first := range 4 {
		for block := first; block < 4; block++ {
			play(t, 4,
				alloc(1, first, 4-first).is(1), grant(1, 1, 2, r|g).is(1), grant(2, 1, 3, r).is(1), grant(1, 1, 4, w).is(1),
				put(4, 1, block, words(8)).ok(), get(1, 1, block).has(words(8)), get(2, 1, block).has(words(8)), get(3, 1, block).has(words(8)), viewGet(3, 1, block-first).has(words(8)),
				sync().is(1), get(1, 1, block).has(words(8)), get(2, 1, block).has(words(8)), get(3, 1, block).has(words(8)), viewGet(1, 1, block-first).has(words(8)),
				put(1, 1, block, words(9)).ok(), get(3, 1, block).has(words(9)),
				gone(1).ok(), gone(2).ok(), gone(3).ok(), gone(4).ok(),
				alloc(5, block, 1).is(1), get(5, 1, block).has(words(9)), sync().is(1), get(5, 1, block).has(words(9)), disk(block).has(words(9)),
			)
		}
	}
}

// 12.4: no single call of one that lacks RightWrite changes a block.
func TestNoCallWithoutTheRight(t *testing.T) {
	for _, rights := range []int{0, r, g, r | g} {
		for slot := -1; slot <= 3; slot++ {
			for n := -1; n <= 4; n++ {
				for _, c := range everyCall(2, slot, n) {
					m := play(t, 4, alloc(1, 0, 3).is(1), put(1, 1, 0, words(1)).ok(), put(1, 1, 1, words(2)).ok(), sync().is(2), put(1, 1, 1, words(3)).ok())
					if rights > 0 {
						wantAnswer(t, m, grant(1, 1, 2, rights).is(1))
						wantAnswer(t, m, grant(1, 1, 2, rights).is(2))
					}
					c.on(m)
					c.on(m)
					for block, want := range [][]uint64{words(1), words(3), zeros()} {
						wantAnswer(t, m, get(1, 1, block).has(want))
					}
				}
			}
		}
	}
}

// everyCall is all calls with these numbers.
func everyCall(env, slot, n int) []call {
	return []call{
		alloc(env, slot, n), alloc(env, n, slot), alloc(env, n, 1), grant(env, slot, n, r), grant(env, slot, env, n), revoke(env, slot),
		get(env, slot, n), put(env, slot, n, words(77)), put(env, slot, n, nil), sync(), cached(), disk(n), gone(env),
		view(env, slot), viewGet(env, slot, n), viewPut(env, slot, n, words(77)), viewPut(env, slot, n, nil),
	}
}

// A kernel keeps nothing that another one has.
func TestKernelsApart(t *testing.T) {
	a, b := fresh(t, 2), fresh(t, 2)
	for _, s := range []step{alloc(1, 0, 2).is(1), put(1, 1, 0, words(1)).ok(), sync().is(1), put(1, 1, 1, words(2)).ok(), grant(1, 1, 2, all).is(1)} {
		wantAnswer(t, a, s)
	}
	wantSame(t, 2, call{}, b, fresh(t, 2))
	wantAnswer(t, a, get(2, 1, 1).has(words(2)))
}

func TestNil(t *testing.T) {
	var k *exodisk.Kernel
	m := &machine{k, map[place]*exodisk.View{}}
	quiet := []string{"Sync", "Cached", "Disk", "Gone", "View"}
	for _, a := range []int{0, 1, -1, 3, 64, math.MinInt, math.MaxInt} {
		for _, b := range []int{0, 1, -1, math.MinInt, math.MaxInt} {
			for _, c := range everyCall(a, b, a) {
				want := answer{e: api.ErrArg}
				if slices.Contains(quiet, c.name) {
					want = answer{}
				}
				if got := c.on(m); !got.same(want) {
					t.Errorf("on nil %v answers %v, want %v", c, got, want)
				}
			}
		}
		if k.View(a, a) != nil {
			t.Errorf("View(%d, %d) on nil is not nil", a, a)
		}
	}
}

// R1: no call panics, on what New and View did not make, either; that has no blocks.
func TestWhatNewDidNotMake(t *testing.T) {
	m := &machine{&exodisk.Kernel{}, map[place]*exodisk.View{}}
	for _, n := range []int{0, 1, -1, 3, 64, math.MinInt, math.MaxInt} {
		for _, c := range everyCall(n, n, n) {
			got := c.on(m)
			if got.e = api.OK; !got.same(answer{}) {
				t.Errorf("%v answers %v", c, got)
			}
		}
		if l, e := new(exodisk.View).Get(n); len(l) != 0 || e == api.OK || new(exodisk.View).Put(n, words(1)) == api.OK {
			t.Errorf("Get(%d) of a View that nobody gave = %v, %d", n, l, e)
		}
	}
}

// R1: no call panics whatever numbers it is given, in each place; R2: beside an error there is nothing else.
func TestAnyNumbers(t *testing.T) {
	numbers := []int{math.MinInt, -1, 0, 1, 2, 3, 4, 11, 12, 32, 64, 65, math.MaxInt}
	m := play(t, 4, alloc(0, 0, 1).is(1), alloc(1, 1, 2).is(1), grant(1, 1, 0, all).is(2), put(1, 1, 1, words(1)).ok())
	for _, env := range numbers {
		for _, a := range numbers {
			for _, b := range numbers {
				for _, c := range everyCall(env, a, b) {
					got := c.on(m)
					if got.e != api.OK && !got.same(answer{e: got.e}) {
						t.Errorf("%v answers %v", c, got)
					}
				}
			}
		}
	}
}
