package exo_test

import (
	"slices"
	"testing"

	"janus/api"
	"janus/exo"
)

// twins is calls behind which 1 and 2 have alike, each for itself: frames, pages, an extent and messages.
func twins() []step {
	var l []step
	for i, env := range []int{1, 2} {
		first, mark := uint64(4*i), uint64(10*env)
		l = append(l,
			alloc(env).is(1), alloc(env).is(2), write(env, 1, 0, mark).ok(), write(env, 2, 31, mark+1).ok(), mapWrite(env, 0, 1).ok(), mapRead(env, 3, 2).ok(),
			allocBlocks(env, first, 3).is(1), put(env, 1, first, words(mark)).ok(), put(env, 1, first+2, words(mark+1)).ok(), send(env, uint64(env), mark).ok(), send(env, uint64(env)).ok(),
		)
	}
	return l
}

func twinSize() size { return size{8, 9, []int{0, 1, 2, 3, lastEnv}} }

// twin is what 1 sees in the beginning.
func twin() []uint64 {
	return lives().frame(1, 0, all, with(0, 10)).frame(2, 1, all, with(31, 11)).page(0, 0, 1).page(3, 1, 0).extent(1, 0, all, words(10), zeros(), words(11)).waits(2)
}

// isTo tells whether the call is a Grant or a Send to that environment.
func (c call) isTo(env uint64) bool {
	grants := len(c.words) > 2 && (c.words[0] == 1 || c.words[0] == 14) && c.words[2] == env
	return grants || len(c.words) > 1 && c.words[0] == 11 && c.words[1] == env
}

// 13.3: each raw call of one that no capability joins to 1, those that are refused among them: 1 sees the same ahead of it and behind it.
func TestApart(t *testing.T) {
	for _, env := range []int{2, 3, 4} { // one that has its own, one that has nothing, one that does not live
		for _, c := range slices.Concat(callsOf(env), anyCalls(env, 1, 0, 2), anyCalls(env, 2, 1, 7), anyCalls(env, 1, 4, 0)) {
			if c.isTo(1) {
				continue
			}
			k := again(t, twinSize(), twins())
			wantSees(t, k, 1, twin())
			c.on(k)
			wantSees(t, k, 1, twin())
			c.on(k)
			wantSees(t, k, 1, twin())
			if t.Failed() {
				t.Fatalf("that was %v", c)
			}
		}
	}
}

// callsOf is each raw call on what environment 2 has, and on what 1 has by the same numbers.
func callsOf(env int) []call {
	return []call{
		alloc(env), grant(env, 1, 3, all), grant(env, 1, 2, r), grant(env, 2, lastEnv, w), free(env, 1), free(env, 2), revoke(env, 1), revoke(env, 2),
		mapRead(env, 1, 1), mapWrite(env, 3, 2), mapRead(env, 0, 2), unmap(env, 0), unmap(env, 3), load(env, 0), load(env, 100), store(env, 0, 99), store(env, 31, 99), store(env, 96, 99),
		copied(env, 1, 2), copied(env, 2, 1), read(env, 1, 0), write(env, 1, 0, 99), write(env, 2, 31, 99), send(env, 2, 9), send(env, 3), recv(env),
		allocBlocks(env, 3, 1), allocBlocks(env, 0, 1), allocBlocks(env, 2, 2), allocBlocks(env, 7, 2), grantBlocks(env, 1, 3, all), grantBlocks(env, 1, 2, r), revokeBlocks(env, 1),
		get(env, 1, 0), get(env, 1, 1), get(env, 1, 4), get(env, 1, 5), put(env, 1, 0, words(99)), put(env, 1, 1, words(99)), put(env, 1, 4, words(99)), put(env, 1, 6, words(99)),
	}
}

// change is a call of 2 by which what 1 sees should change, behind these steps, and what 1 sees then.
type change struct {
	ahead []step
	by    step
	sees  []uint64
}

// mine is what 1 sees of a frame of its own with these words, a page of it, and blocks 0 and 1.
func mine(frame, block0, block1 []uint64) []uint64 {
	return lives().frame(1, 0, all, frame).page(0, 0, 1).extent(1, 0, all, block0, block1).waits(0)
}

func own() []step {
	return []step{alloc(1).is(1), mapWrite(1, 0, 1).ok(), allocBlocks(1, 0, 2).is(1)}
}

// 13.3: what 1 sees does change by what the promise names: a frame or an extent that both have, of which 2 may write.
func TestChangesByWhoMayWrite(t *testing.T) {
	for _, x := range []change{
		{[]step{grant(1, 1, 2, w).is(1)}, write(2, 1, 5, 50).ok(), mine(with(5, 50), zeros(), zeros())},
		{[]step{grant(1, 1, 2, r|w).is(1), mapWrite(2, 2, 1).ok()}, store(2, 69, 50).ok(), mine(with(5, 50), zeros(), zeros())},
		{[]step{grant(1, 1, 2, w).is(1), alloc(2).is(2), write(2, 2, 5, 50).ok()}, copied(2, 1, 2).ok(), mine(with(5, 50), zeros(), zeros())},
		{[]step{grantBlocks(1, 1, 2, w).is(1)}, put(2, 1, 1, words(3)).ok(), mine(zeros(), zeros(), words(3))},
		{[]step{grantBlocks(1, 1, 2, r|w|g).is(1)}, put(2, 1, 0, words(3)).ok(), mine(zeros(), words(3), zeros())},
	} {
		k := play(t, usual(), join(own(), x.ahead)...)
		wantSees(t, k, 1, mine(zeros(), zeros(), zeros()))
		wantAnswer(t, k, x.by)
		wantSees(t, k, 1, x.sees)
	}
}

// Also where 1 has it from 2, and where both have it from a third one; of any rights of its own.
func TestChangesWhoeverGaveIt(t *testing.T) {
	for rights := uint64(1); rights <= all; rights++ {
		k := play(t, usual(), alloc(2).is(1), grant(2, 1, 1, rights).is(1), allocBlocks(2, 0, 2).is(1), grantBlocks(2, 1, 1, rights).is(1), write(2, 1, 5, 50).ok(), put(2, 1, 1, words(3)).ok())
		wantSees(t, k, 1, lives().frame(1, 0, rights, with(5, 50)).extent(1, 0, rights, zeros(), words(3)).waits(0))
		k = play(t, usual(),
			alloc(3).is(1), grant(3, 1, 1, rights).is(1), grant(3, 1, 2, w).is(1), allocBlocks(3, 0, 2).is(1), grantBlocks(3, 1, 1, rights).is(1), grantBlocks(3, 1, 2, w).is(1),
			free(3, 1).ok(), write(2, 1, 5, 50).ok(), put(2, 1, 1, words(3)).ok(),
		)
		wantSees(t, k, 1, lives().frame(1, 0, rights, with(5, 50)).extent(1, 0, rights, zeros(), words(3)).waits(0))
	}
}

// Without RightWrite it does not change, whatever else 2 may.
func TestNoChangeByWhoMayNotWrite(t *testing.T) {
	for _, rights := range []uint64{r, g, r | g} {
		ahead := join(own(), []step{write(1, 1, 5, 50).ok(), put(1, 1, 1, words(3)).ok(), grant(1, 1, 2, rights).is(1), grantBlocks(1, 1, 2, rights).is(1)})
		for _, c := range slices.Concat(callsOf(2), anyCalls(2, 1, 0, 2), anyCalls(2, 1, 1, 1)) {
			if c.isTo(1) {
				continue
			}
			k := again(t, usual(), ahead)
			mapRead(2, 0, 1).on(k)
			c.on(k)
			c.on(k)
			wantSees(t, k, 1, mine(with(5, 50), zeros(), words(3)))
		}
	}
}

// 13.3: Grant and Send to 1.
func TestChangesByGrantAndSend(t *testing.T) {
	two := []step{alloc(2).is(1), write(2, 1, 5, 50).ok(), allocBlocks(2, 0, 1).is(1), put(2, 1, 0, words(3)).ok()}
	for _, x := range []change{
		{two, grant(2, 1, 1, g).is(1), lives().frame(1, 0, g, with(5, 50)).waits(0)},
		{two, grantBlocks(2, 1, 1, g).is(1), lives().extent(1, 0, g, words(3)).waits(0)},
		{two, send(2, 1, 1, 2, 3).ok(), lives().waits(1)},
	} {
		k := play(t, usual(), x.ahead...)
		wantSees(t, k, 1, lives().waits(0))
		wantAnswer(t, k, x.by)
		wantSees(t, k, 1, x.sees)
		wantSees(t, k, 3, lives().waits(0))
	}
}

// 13.3: Revoke of what 1's own was made of, by whoever has that; the pages with it.
func TestChangesByRevoke(t *testing.T) {
	chain := []step{
		alloc(3).is(1), grant(3, 1, 2, all).is(1), grant(2, 1, 1, r|w).is(1), mapWrite(1, 0, 1).ok(), mapRead(1, 2, 1).ok(), alloc(1).is(2), mapRead(1, 1, 2).ok(),
		allocBlocks(3, 0, 2).is(1), grantBlocks(3, 1, 2, all).is(1), grantBlocks(2, 1, 1, r|w).is(1), allocBlocks(1, 5, 1).is(2),
	}
	whole := lives().frame(1, 0, r|w, zeros()).frame(2, 1, all, zeros()).page(0, 0, 1).page(1, 1, 0).page(2, 0, 0).extent(1, 0, r|w, zeros(), zeros()).extent(2, 5, all, zeros()).waits(0)
	noFrame := lives().frame(2, 1, all, zeros()).page(1, 1, 0).extent(1, 0, r|w, zeros(), zeros()).extent(2, 5, all, zeros()).waits(0)
	noExtent := lives().frame(1, 0, r|w, zeros()).frame(2, 1, all, zeros()).page(0, 0, 1).page(1, 1, 0).page(2, 0, 0).extent(2, 5, all, zeros()).waits(0)
	for _, x := range []struct {
		by   step
		sees []uint64
	}{
		{revoke(2, 1).ok(), noFrame},
		{revoke(3, 1).ok(), noFrame},
		{revokeBlocks(2, 1).ok(), noExtent},
		{revokeBlocks(3, 1).ok(), noExtent},
		{free(2, 1).ok(), whole}, // what is made of it is left to whom it was made of
		{free(3, 1).ok(), whole},
		{revoke(0, 1).fails(api.ErrCap), whole},
		{revokeBlocks(lastEnv, 1).fails(api.ErrCap), whole},
	} {
		k := play(t, usual(), chain...)
		wantSees(t, k, 1, whole)
		wantAnswer(t, k, x.by)
		wantSees(t, k, 1, x.sees)
	}
	// Behind a Free of the one between them, a Revoke of the first one reaches it.
	k := play(t, usual(), append(chain, free(2, 1).ok(), revoke(3, 1).ok())...)
	wantSees(t, k, 1, noFrame)
}

// joins tells whether the promise lets the call change what env sees.
func (m *model) joins(c call, env int) bool {
	x, _, ok := m.read(c)
	if !ok {
		return false
	}
	switch c.words[0] {
	case 1, 11, 14:
		if x["to"] == env {
			return true
		}
	case 2, 3, 15:
		kind := map[uint64]int{2: frameKind, 3: frameKind, 15: extentKind}[c.words[0]]
		if m.anyBelow(m.has(kind, c.env, x["slot"]), env) {
			return true
		}
	}
	return m.bothHave(c.env, env)
}

// anyBelow tells whether env has what was made of x.
func (m *model) anyBelow(x *made, env int) bool {
	return slices.ContainsFunc(m.caps, func(y *made) bool { return !y.gone && y.env == env && x != nil && y.isBelow(x) })
}

// bothHave tells whether writer has, with RightWrite, a frame or extent that env has too.
func (m *model) bothHave(writer, env int) bool {
	for _, x := range m.caps {
		for _, y := range m.caps {
			if !x.gone && !y.gone && x.env == writer && y.env == env && x.have&2 == 2 && x.kind == y.kind && x.id < y.id+y.n && y.id < x.id+x.n {
				return true
			}
		}
	}
	return false
}

// 13.3: in drawn rows, what others see changes only where the promise says so, and in no way by what is refused.
func TestOnlyWhatJoinsChangesWhatOthersSee(t *testing.T) {
	changes, kept := 0, 0
	for n, p := range kinds()[:5] {
		for seed := range 10 {
			k := fresh(t, p.size)
			p.row(77*n+seed, 150, func(m *model, c call) {
				may, was := map[int]bool{}, seenBy(k)
				for env := range was {
					may[env] = env == c.env || m.joins(c, env)
				}
				refused := m.do(c).e != api.OK
				c.on(k)
				for env, is := range seenBy(k) {
					if slices.Equal(is, was[env]) {
						kept++
						continue
					}
					changes++
					if !may[env] || refused {
						t.Fatalf("kind %d, seed %d: %v changed what %d sees from %v to %v", n, seed, c, env, was[env], is)
					}
				}
			})
		}
	}
	if changes < 1000 || kept < 1000 {
		t.Errorf("only %d changes, and %d times none", changes, kept)
	}
}

// seenBy is what each environment sees.
func seenBy(k *exo.Kernel) [api.MaxEnvs][]uint64 {
	var l [api.MaxEnvs][]uint64
	for env := range l {
		l[env] = k.Sees(env)
	}
	return l
}

// T4: whatever one makes of raw calls that is joined to 1 by nothing, 1 sees the same.
func TestApartInDrawnRows(t *testing.T) {
	p := kind{size{10, 12, []int{2, 3}}, kinds()[0].often, nil}
	for seed := range 20 {
		k := fresh(t, size{10, 12, []int{1, 2, 3}})
		for _, s := range twins()[:11] {
			wantAnswer(t, k, s)
		}
		p.row(seed, 150, func(m *model, c call) {
			m.do(c)
			if c.env != 1 && !c.isTo(1) {
				c.on(k)
				wantSees(t, k, 1, twin())
			}
		})
	}
}
