package exo_test

import (
	"slices"
	"testing"

	"janus/api"
	"janus/exo"
)

// beginning is calls behind which each of the calls has something to do.
func beginning() []step {
	return []step{
		alloc(1).is(1), alloc(1).is(2), alloc(2).is(1),
		write(1, 1, 3, 9).ok(), write(1, 2, 0, 5).ok(),
		mapWrite(1, 0, 1).ok(), mapRead(1, 1, 2).ok(),
		grant(1, 2, 3, r).is(1),
		allocBlocks(1, 2, 3).is(1), put(1, 1, 3, words(5)).ok(), grantBlocks(1, 1, 3, r).is(1),
		send(2, 1, 7, 8).ok(), send(3, 2).ok(),
	}
}

func played(t *testing.T) *exo.Kernel {
	t.Helper()
	return play(t, usual(), beginning()...)
}

// examples is each call once, behind the beginning; which is at its number.
func examples() []step {
	return []step{
		alloc(1).is(3),
		grant(1, 1, 2, all).is(2),
		free(1, 2).ok(),
		revoke(1, 2).ok(),
		mapWrite(1, 2, 1).ok(),
		unmap(1, 1).ok(),
		load(1, 3).is(9),
		store(1, 3, 8).ok(),
		copied(1, 2, 1).ok(),
		read(1, 1, 3).is(9),
		write(1, 1, 3, 7).ok(),
		send(1, 2, 5).ok(),
		recv(1).is(2, 7, 8),
		allocBlocks(1, 0, 2).is(2),
		grantBlocks(1, 1, 2, all).is(1),
		revokeBlocks(1, 1).ok(),
		get(1, 1, 3).is(words(5)...),
		put(1, 1, 3, words(6)).ok(),
	}
}

// behind plays the beginning and then these steps.
func behind(t *testing.T, steps ...step) *exo.Kernel {
	t.Helper()
	return play(t, usual(), join(beginning(), steps)...)
}

// 13.1: each call answers what the chapter has in brackets, and does what the layer's call does.
func TestEachCall(t *testing.T) {
	one := func(f0, f1 []uint64) seen { return lives().frame(1, 0, all, f0).frame(2, 1, all, f1) }
	f0, f1, b3 := with(3, 9), with(0, 5), words(5)
	extent := func(s seen) seen { return s.extent(1, 2, all, zeros(), b3, zeros()) }
	start := extent(one(f0, f1).page(0, 0, 1).page(1, 1, 0))
	wantSees(t, played(t), 1, start.waits(1))
	sees := [][]uint64{
		extent(one(f0, f1).frame(3, 3, all, zeros()).page(0, 0, 1).page(1, 1, 0)).waits(1),
		start.waits(1),
		extent(lives().frame(1, 0, all, f0).page(0, 0, 1)).waits(1),
		start.waits(1),
		extent(one(f0, f1).page(0, 0, 1).page(1, 1, 0).page(2, 0, 1)).waits(1),
		extent(one(f0, f1).page(0, 0, 1)).waits(1),
		start.waits(1),
		extent(one(with(3, 8), f1).page(0, 0, 1).page(1, 1, 0)).waits(1),
		extent(one(f0, f0).page(0, 0, 1).page(1, 1, 0)).waits(1),
		start.waits(1),
		extent(one(with(3, 7), f1).page(0, 0, 1).page(1, 1, 0)).waits(1),
		start.waits(1),
		start.waits(0),
		start.extent(2, 0, all, zeros(), zeros()).waits(1),
		start.waits(1),
		start.waits(1),
		start.waits(1),
		one(f0, f1).page(0, 0, 1).page(1, 1, 0).extent(1, 2, all, zeros(), words(6), zeros()).waits(1),
	}
	for n, s := range examples() {
		wantSees(t, behind(t, s), 1, sees[n])
	}
}

// What the examples do to those that they are done to.
func TestEachCallToOthers(t *testing.T) {
	two := lives().frame(1, 2, all, zeros())
	three := lives().frame(1, 1, r, with(0, 5))
	blocks := [][]uint64{zeros(), words(5), zeros()}
	sees := func(n, env int, want []uint64) {
		t.Helper()
		wantSees(t, behind(t, examples()[n]), env, want)
	}
	for n := range examples() {
		switch n {
		case 1:
			sees(n, 2, two.frame(2, 0, all, with(3, 9)).waits(1))
		case 11:
			sees(n, 2, two.waits(2))
		case 14:
			sees(n, 2, two.extent(1, 2, all, blocks...).waits(1))
		default:
			sees(n, 2, two.waits(1))
		}
		switch n {
		case 3:
			sees(n, 3, lives().extent(1, 2, r, blocks...).waits(0))
		case 8:
			sees(n, 3, lives().frame(1, 1, r, with(3, 9)).extent(1, 2, r, blocks...).waits(0))
		case 15:
			sees(n, 3, three.waits(0))
		case 17:
			sees(n, 3, three.extent(1, 2, r, zeros(), words(6), zeros()).waits(0))
		default:
			sees(n, 3, three.extent(1, 2, r, blocks...).waits(0))
		}
		sees(n, 0, lives().waits(0))
		sees(n, lastEnv, lives().waits(0))
		sees(n, 4, nil)
	}
}

// 13.1: who does not live makes no call.
func TestCallsOfOneThatDoesNotLive(t *testing.T) {
	for _, env := range append(noEnvs(), 4, 5, lastEnv-1) {
		var steps []step
		for _, s := range examples() {
			steps = append(steps, raw(env, s.words...).failsArg())
		}
		behind(t, append(steps, call{env: env}.failsArg(), raw(env, 18).failsArg(), raw(env, 99).failsArg())...)
	}
}

// 13.1: one that was made to live makes calls from then on.
func TestCallsOfOneThatLivesNow(t *testing.T) {
	k := played(t)
	wantAnswer(t, k, grant(1, 1, 4, r).failsArg())
	wantAnswer(t, k, send(1, 4).failsArg())
	wantAnswer(t, k, grantBlocks(1, 1, 4, r).failsArg())
	wantAnswer(t, k, alloc(4).failsArg())
	k.Create(4)
	wantSees(t, k, 4, lives().waits(0))
	wantAnswer(t, k, alloc(4).is(1))
	wantAnswer(t, k, grant(1, 1, 4, r).is(2))
	wantAnswer(t, k, send(1, 4).ok())
	wantAnswer(t, k, grantBlocks(1, 1, 4, r).is(1))
	wantAnswer(t, k, recv(4).is(1))
}

// 13.1: what is no call.
func TestNoCall(t *testing.T) {
	numbers := []uint64{18, 19, 20, 31, 32, 99, 255, 256, 1<<31 - 1, 1 << 31, 1 << 32, 1 << 63, top, top - 1}
	for n := range uint64(18) {
		numbers = append(numbers, 1<<8+n, 1<<32+n, 1<<63+n, -n-1)
	}
	steps := []step{call{env: 1}.failsArg(), call{env: 1, words: []uint64{}}.failsArg()}
	for _, n := range numbers {
		for _, s := range examples() {
			steps = append(steps, raw(1, append([]uint64{n}, s.words[1:]...)...).failsArg())
		}
	}
	behind(t, steps...)
}

// mayHave is how many words a call may have behind its number, the least and the most.
func mayHave(n int) (int, int) {
	have := [][2]int{{0, 0}, {3, 3}, {1, 1}, {1, 1}, {3, 3}, {1, 1}, {1, 1}, {2, 2}, {2, 2}, {2, 2}, {3, 3}, {1, 9}, {0, 0}, {2, 2}, {3, 3}, {1, 1}, {2, 2}, {34, 34}}
	return have[n][0], have[n][1]
}

// 13.1: each call has just so many words; one too few, one too many and far too many are refused.
func TestHowManyWords(t *testing.T) {
	for n, s := range examples() {
		least, most := mayHave(n)
		var refused []step
		for _, have := range []int{0, 1, 2, 3, 4, 5, 6, 7, 8, 9, 10, 11, 30, 31, 32, 33, 34, 35, 36, 64, 100, 1000, 1 << 16} {
			if have < least || have > most {
				refused = append(refused, withWords(s.call, have).failsArg())
			} else if x := withWords(s.call, have).on(played(t)); x.e != api.OK {
				t.Errorf("call %d with %d words answers %v", n, have, x)
			}
		}
		behind(t, refused...)
	}
}

// withWords is the call with so many words behind its number; those that it lacks are 1.
func withWords(c call, n int) call {
	l := append(slices.Clone(c.words), slices.Repeat([]uint64{1}, n)...)
	return raw(c.env, l[:1+n:1+n]...)
}

// How many words there are is told by a list's length, not by what lies behind its end.
func TestWordsBehindTheEnd(t *testing.T) {
	for n, s := range examples() {
		least, most := mayHave(n)
		l := withWords(s.call, 60).words
		behind(t, step{call{1, l[:len(s.words)]}, s.want})
		if least > 0 {
			behind(t, call{1, l[:least]}.failsArg())
		}
		behind(t, call{1, l[:most+2]}.failsArg(), call{1, l[:0]}.failsArg())
	}
}

// named is at which places of a call behind its number stand words that must be below 2^31.
func named(n int) int {
	return []int{0, 3, 1, 1, 3, 1, 0, 0, 2, 2, 2, 1, 0, 2, 3, 1, 2, 2}[n]
}

// 13.1: words that are not named v are below 2^31; what only its lower bits would let pass is refused too.
func TestWordsThatAreTooGreat(t *testing.T) {
	for n, s := range examples() {
		var refused []step
		for at := 1; at <= named(n); at++ {
			for _, v := range []uint64{1 << 31, 1<<31 + 1, 1 << 32, 1<<32 + s.words[at], 1<<31 + s.words[at], 1<<40 + s.words[at], 1<<63 + s.words[at], 1 << 63, top, -s.words[at] - 1} {
				l := slices.Clone(s.words)
				l[at] = v
				refused = append(refused, raw(1, l...).failsArg())
			}
		}
		behind(t, refused...)
	}
}

// 13.1: 2^31 - 1 is let pass, and the layer's own error is told.
func TestGreatestWordsThatMayBe(t *testing.T) {
	const most = 1<<31 - 1
	behind(t,
		grant(1, most, 2, r).fails(api.ErrCap), grant(1, 1, most, r).failsArg(), grant(1, 1, 2, most).fails(api.ErrCap),
		free(1, most).fails(api.ErrCap), revoke(1, most).fails(api.ErrCap),
		mapRead(1, most, 1).failsArg(), mapRead(1, 0, most).fails(api.ErrCap), raw(1, 4, 0, 1, most).failsArg(),
		unmap(1, most).failsArg(),
		copied(1, most, 1).fails(api.ErrCap), copied(1, 1, most).fails(api.ErrCap),
		read(1, most, 0).fails(api.ErrCap), read(1, 1, most).failsArg(),
		write(1, most, 0, 1).fails(api.ErrCap), write(1, 1, most, 1).failsArg(),
		send(1, most).failsArg(),
		allocBlocks(1, most, 1).failsArg(), allocBlocks(1, 0, most).failsArg(), allocBlocks(1, most, most).failsArg(),
		grantBlocks(1, most, 2, r).fails(api.ErrCap), grantBlocks(1, 1, most, r).failsArg(), grantBlocks(1, 1, 2, most).fails(api.ErrCap),
		revokeBlocks(1, most).fails(api.ErrCap),
		get(1, most, 2).fails(api.ErrCap), get(1, 1, most).fails(api.ErrCap),
		put(1, most, 2, words(1)).fails(api.ErrCap), put(1, 1, most, words(1)).fails(api.ErrCap),
	)
	// One more of each that was let pass.
	behind(t,
		grant(1, most+1, 2, r).failsArg(), grant(1, 1, 2, most+1).failsArg(), free(1, most+1).failsArg(), revoke(1, most+1).failsArg(), mapRead(1, 0, most+1).failsArg(),
		copied(1, most+1, 1).failsArg(), copied(1, 1, most+1).failsArg(), read(1, most+1, 0).failsArg(), write(1, most+1, 0, 1).failsArg(),
		grantBlocks(1, most+1, 2, r).failsArg(), grantBlocks(1, 1, 2, most+1).failsArg(), revokeBlocks(1, most+1).failsArg(),
		get(1, most+1, 2).failsArg(), get(1, 1, most+1).failsArg(), put(1, most+1, 2, words(1)).failsArg(), put(1, 1, most+1, words(1)).failsArg(),
	)
}

// 13.1: words named v may be any.
func TestValues(t *testing.T) {
	for _, v := range []uint64{0, 1, 1<<31 - 1, 1 << 31, 1<<31 + 1, 1 << 32, 1<<63 - 1, 1 << 63, top} {
		l := slices.Repeat([]uint64{v}, api.BlockWords)
		eight := l[:api.MaxMessage]
		behind(t,
			store(1, 7, v).ok(), load(1, 7).is(v), read(1, 1, 7).is(v),
			write(1, 1, 31, v).ok(), read(1, 1, 31).is(v), load(1, 31).is(v),
			send(1, 3, v).ok(), send(1, 3, eight...).ok(), recv(3).is(1, v), recv(3).is(append([]uint64{1}, eight...)...),
			put(1, 1, 2, l).ok(), get(1, 1, 2).is(l...), put(1, 1, 4, words(v)).ok(), get(3, 1, 4).is(words(v)...),
		)
	}
	for _, addr := range []uint64{64, 127, 128, 129, 1<<31 - 1, 1 << 31, 1<<32 + 3, 1 << 63, 1<<63 + 3, top - 31, top} {
		behind(t, load(1, addr).fails(api.ErrFault), store(1, addr, 1).fails(api.ErrFault))
	}
}

// What a call is made of is told apart in each place: no two of its words are taken for one another.
func TestOrderOfWords(t *testing.T) {
	k := behind(t,
		alloc(1).is(3), grant(1, 3, 2, 5).is(2), mapRead(1, 3, 3).ok(), write(1, 3, 4, 6).ok(), read(1, 3, 4).is(6), load(1, 100).is(6),
		copied(1, 2, 3).ok(), read(1, 2, 4).is(6), read(1, 2, 0).is(0), store(1, 2, 1).ok(), read(1, 1, 2).is(1), read(1, 1, 1).is(0),
		allocBlocks(1, 5, 2).is(2), grantBlocks(1, 2, 3, 4).is(2), put(1, 2, 6, words(1)).ok(), get(1, 2, 6).is(words(1)...), get(1, 2, 5).is(zeros()...),
		send(1, 3, 2, 1, 0).ok(), recv(3).is(1, 2, 1, 0),
	)
	wantSees(t, k, 2, lives().frame(1, 2, all, zeros()).frame(2, 3, r|g, with(4, 6)).waits(1))
	wantSees(t, k, 3, lives().frame(1, 1, r, with(4, 6)).extent(1, 2, r, zeros(), words(5), zeros()).extent(2, 5, g, zeros(), words(1)).waits(0))
}

// 13.1: 4's w is 0 or 1.
func TestMap(t *testing.T) {
	base := lives().frame(1, 0, all, with(3, 9)).frame(2, 1, all, with(0, 5)).page(0, 0, 1).page(1, 1, 0)
	extent := func(s seen) []uint64 { return s.extent(1, 2, all, zeros(), words(5), zeros()).waits(1) }
	wantSees(t, behind(t, raw(1, 4, 2, 1, 0).ok()), 1, extent(base.page(2, 0, 0)))
	wantSees(t, behind(t, raw(1, 4, 2, 1, 1).ok()), 1, extent(base.page(2, 0, 1)))
	for _, wrong := range []uint64{2, 3, 4, 255, 256, 257, 1 << 16, 1<<31 - 1, 1 << 31, 1<<32 + 1, top} {
		behind(t,
			raw(1, 4, 2, 1, wrong).failsArg(), raw(1, 4, 0, 2, wrong).failsArg(),
			raw(1, 4, 2, 9, wrong).failsArg(), raw(3, 4, 2, 1, wrong).failsArg(), // ahead of ErrCap
		)
	}
	behind(t,
		mapRead(1, 4, 1).failsArg(), mapWrite(1, 4, 1).failsArg(), mapRead(1, 4, 9).failsArg(), // ahead of ErrCap
		mapRead(1, 0, 0).fails(api.ErrCap), mapRead(1, 0, 3).fails(api.ErrCap), mapRead(1, 0, 64).fails(api.ErrCap), mapRead(1, 0, 65).fails(api.ErrCap), mapWrite(1, 3, 3).fails(api.ErrCap),
		mapWrite(3, 0, 1).fails(api.ErrCap), mapRead(3, 0, 1).ok(), load(3, 0).is(5), store(3, 0, 1).fails(api.ErrProt),
	)
}

func TestUnmap(t *testing.T) {
	behind(t, unmap(1, 2).fails(api.ErrFault), unmap(1, 3).fails(api.ErrFault), unmap(1, 4).failsArg(), unmap(1, 5).failsArg(), unmap(2, 0).fails(api.ErrFault), unmap(1, 0).ok(), unmap(1, 0).fails(api.ErrFault), load(1, 3).fails(api.ErrFault))
}

// 13.1: 6 and 7 at pages that are mapped, are not, and may not be written.
func TestLoadAndStore(t *testing.T) {
	behind(t,
		load(1, 0).is(0), load(1, 3).is(9), load(1, 31).is(0), load(1, 32).is(5), load(1, 63).is(0),
		load(1, 64).fails(api.ErrFault), load(1, 127).fails(api.ErrFault), load(1, 128).fails(api.ErrFault), load(2, 0).fails(api.ErrFault),
		store(1, 0, 1).ok(), store(1, 31, 2).ok(), load(1, 0).is(1), read(1, 1, 31).is(2),
		store(1, 32, 1).fails(api.ErrProt), store(1, 63, 1).fails(api.ErrProt), store(1, 64, 1).fails(api.ErrFault), store(1, 128, 1).fails(api.ErrFault), store(2, 0, 1).fails(api.ErrFault),
		mapWrite(1, 3, 2).ok(), store(1, 127, 6).ok(), load(1, 63).is(6), read(3, 1, 31).is(6),
		free(1, 1).ok(), load(1, 3).fails(api.ErrFault), store(1, 3, 1).fails(api.ErrFault),
	)
}

func TestReadWriteAndCopy(t *testing.T) {
	behind(t,
		read(1, 1, 31).is(0), read(1, 1, 32).failsArg(), write(1, 1, 32, 1).failsArg(), write(1, 1, 31, 4).ok(), read(1, 1, 31).is(4),
		read(1, 3, 0).fails(api.ErrCap), read(1, 0, 0).fails(api.ErrCap), read(1, 3, 32).fails(api.ErrCap), write(1, 3, 32, 1).fails(api.ErrCap), // ahead of ErrArg
		read(3, 1, 0).is(5), write(3, 1, 0, 1).fails(api.ErrCap), write(3, 1, 32, 1).fails(api.ErrCap),
		grant(1, 1, 3, w).is(2), read(3, 2, 0).fails(api.ErrCap), write(3, 2, 0, 6).ok(), read(1, 1, 0).is(6),
		copied(3, 1, 2).fails(api.ErrCap), copied(3, 2, 2).fails(api.ErrCap), copied(3, 1, 1).fails(api.ErrCap), copied(3, 2, 3).fails(api.ErrCap), copied(3, 3, 1).fails(api.ErrCap),
		copied(3, 2, 1).ok(), read(1, 1, 0).is(5), read(1, 1, 31).is(0), copied(1, 1, 1).ok(), read(1, 1, 0).is(5),
	)
}

// 13.1: 0's own errors: no frame is left, no slot is left; the first ahead of the other.
func TestAllocErrors(t *testing.T) {
	few := size{2, 1, []int{1, 2}}
	play(t, few, alloc(1).is(1), alloc(2).is(1), alloc(1).fails(api.ErrNone), alloc(2).fails(api.ErrNone), free(1, 1).ok(), alloc(2).is(2))
	k := filled(t, size{2, 1, []int{1, 2}})
	wantAnswer(t, k, alloc(1).fails(api.ErrFull))
	wantAnswer(t, k, alloc(2).is(1))
	wantAnswer(t, k, alloc(1).fails(api.ErrNone))
}

// filled is a kernel in which environment 1 has a frame, and the same once more in each other slot.
func filled(t *testing.T, s size) *exo.Kernel {
	t.Helper()
	k := fresh(t, s)
	wantAnswer(t, k, alloc(1).is(1))
	for slot := 2; slot <= api.MaxCaps; slot++ {
		wantAnswer(t, k, grant(1, 1, 1, all).is(uint64(slot)))
	}
	return k
}

// What is refused for want of a slot changes nothing, not the words of the frame that is next either.
func TestAllocFullChangesNothing(t *testing.T) {
	s := size{2, 1, []int{1, 2}}
	k := filled(t, s)
	for _, x := range []step{alloc(2).is(1), write(2, 1, 4, 44).ok(), free(2, 1).ok()} {
		wantAnswer(t, k, x)
	}
	was := look(k, s)
	wantAnswer(t, k, alloc(1).fails(api.ErrFull))
	wantAnswer(t, k, grant(1, 1, 1, r).fails(api.ErrFull))
	wantSame(t, alloc(1), look(k, s), was)
	wantWords(t, "the frame that is free", k.Frame(1), with(4, 44))
}

// toWhom is an environment that lives not, or is none, as a word.
func toWhom() []uint64 {
	return []uint64{4, lastEnv - 1, api.MaxEnvs, api.MaxEnvs + 1, 99, 1<<31 - 1, 1 << 31, 1<<32 + 2, 1<<63 + 2, top}
}

// 13.1: Grant and Send to one that does not live are ErrArg, ahead of their own errors.
func TestToOneThatDoesNotLive(t *testing.T) {
	for _, to := range toWhom() {
		behind(t,
			grant(1, 1, to, r).failsArg(), grant(1, 9, to, r).failsArg(), grant(1, 1, to, 0).failsArg(), grant(3, 1, to, r).failsArg(),
			grantBlocks(1, 1, to, r).failsArg(), grantBlocks(1, 9, to, r).failsArg(), grantBlocks(1, 1, to, 8).failsArg(), grantBlocks(3, 1, to, r).failsArg(),
			send(1, to).failsArg(), send(1, to, 1, 2, 3).failsArg(), send(1, to, words(1)[:8]...).failsArg(),
		)
	}
}

// Nothing waits for one that lived not when it was sent.
func TestNothingIsKeptForOneThatDoesNotLive(t *testing.T) {
	k := played(t)
	for _, c := range []call{send(1, 4, 5), grant(1, 1, 4, r), grantBlocks(1, 1, 4, r)} {
		wantAnswer(t, k, c.failsArg())
	}
	k.Create(4)
	wantSees(t, k, 4, lives().waits(0))
	wantAnswer(t, k, recv(4).fails(api.ErrNone))
}

func TestGrant(t *testing.T) {
	behind(t,
		grant(1, 1, 2, r).is(2), grant(1, 1, 2, r).is(3), grant(1, 1, 0, all).is(1), grant(1, 1, lastEnv, w).is(1), grant(1, 1, 1, g).is(3), // to oneself
		grant(1, 3, 1, g).is(4), grant(1, 3, 1, r).fails(api.ErrCap), grant(1, 3, 2, all).fails(api.ErrCap),
		grant(1, 1, 2, 0).fails(api.ErrCap), grant(1, 1, 2, 8).fails(api.ErrCap), grant(1, 1, 2, 15).fails(api.ErrCap),
		grant(1, 0, 2, r).fails(api.ErrCap), grant(1, 5, 2, r).fails(api.ErrCap), grant(1, 65, 2, r).fails(api.ErrCap), grant(3, 1, 2, r).fails(api.ErrCap),
		write(1, 1, 1, 6).ok(), read(2, 2, 1).is(6), read(0, 1, 1).is(6), read(lastEnv, 1, 1).fails(api.ErrCap), write(lastEnv, 1, 1, 7).ok(), read(2, 3, 1).is(7),
	)
	k := filled(t, usual())
	for _, s := range []step{alloc(2).is(1), grant(2, 1, 1, r).fails(api.ErrFull), grant(2, 2, 1, r).fails(api.ErrCap), grant(2, 1, 1, 8).fails(api.ErrCap), grant(2, 1, 4, r).failsArg(), free(1, 7).ok(), grant(2, 1, 1, r).is(7)} {
		wantAnswer(t, k, s)
	}
}

func TestGrantBlocks(t *testing.T) {
	behind(t,
		grantBlocks(1, 1, 2, r).is(1), grantBlocks(1, 1, 2, r).is(2), grantBlocks(1, 1, 0, all).is(1), grantBlocks(1, 1, lastEnv, w).is(1), grantBlocks(1, 1, 1, g).is(2),
		grantBlocks(1, 2, 1, g).is(3), grantBlocks(1, 2, 1, r).fails(api.ErrCap),
		grantBlocks(1, 1, 2, 0).fails(api.ErrCap), grantBlocks(1, 1, 2, 8).fails(api.ErrCap),
		grantBlocks(1, 0, 2, r).fails(api.ErrCap), grantBlocks(1, 4, 2, r).fails(api.ErrCap), grantBlocks(3, 1, 2, r).fails(api.ErrCap),
		put(1, 1, 2, words(6)).ok(), get(2, 1, 2).is(words(6)...), get(0, 1, 2).is(words(6)...), get(lastEnv, 1, 2).fails(api.ErrCap), put(lastEnv, 1, 2, words(7)).ok(), get(2, 2, 2).is(words(7)...),
	)
	k := behind(t)
	for slot := uint64(2); slot <= api.MaxCaps; slot++ {
		wantAnswer(t, k, grantBlocks(1, 1, 1, r).is(slot))
	}
	for _, s := range []step{
		grantBlocks(1, 1, 1, r).fails(api.ErrFull), grantBlocks(1, 65, 1, r).fails(api.ErrCap), grantBlocks(1, 1, 4, r).failsArg(),
		allocBlocks(1, 0, 1).fails(api.ErrFull), allocBlocks(1, 2, 1).fails(api.ErrCap), allocBlocks(1, 0, 0).failsArg(),
	} {
		wantAnswer(t, k, s)
	}
}

func TestFreeAndRevoke(t *testing.T) {
	behind(t,
		free(1, 0).fails(api.ErrCap), free(1, 3).fails(api.ErrCap), free(1, 64).fails(api.ErrCap), free(1, 65).fails(api.ErrCap), free(0, 1).fails(api.ErrCap),
		revoke(1, 0).fails(api.ErrCap), revoke(1, 3).fails(api.ErrCap), revoke(1, 65).fails(api.ErrCap), revoke(0, 1).fails(api.ErrCap),
		revoke(3, 1).ok(), read(3, 1, 0).is(5), revoke(1, 2).ok(), read(3, 1, 0).fails(api.ErrCap), free(3, 1).fails(api.ErrCap), read(1, 2, 0).is(5),
		free(1, 2).ok(), free(1, 2).fails(api.ErrCap), read(1, 2, 0).fails(api.ErrCap), alloc(3).is(1), read(3, 1, 0).is(0),
	)
	behind(t,
		revokeBlocks(1, 0).fails(api.ErrCap), revokeBlocks(1, 2).fails(api.ErrCap), revokeBlocks(1, 65).fails(api.ErrCap), revokeBlocks(0, 1).fails(api.ErrCap),
		revokeBlocks(3, 1).ok(), get(3, 1, 3).is(words(5)...), revokeBlocks(1, 1).ok(), get(3, 1, 3).fails(api.ErrCap), revokeBlocks(3, 1).fails(api.ErrCap), get(1, 1, 3).is(words(5)...),
	)
}

// Frames and extents stand in slots of their own: the calls of the one do not reach the other.
func TestFramesAndExtentsApart(t *testing.T) {
	play(t, usual(),
		alloc(1).is(1), grant(1, 1, 2, all).is(1),
		revokeBlocks(1, 1).fails(api.ErrCap), grantBlocks(1, 1, 2, r).fails(api.ErrCap), get(1, 1, 0).fails(api.ErrCap), put(1, 1, 0, words(1)).fails(api.ErrCap),
		allocBlocks(1, 0, 1).is(1), grantBlocks(1, 1, 2, all).is(1), allocBlocks(3, 1, 1).is(1),
		revoke(1, 1).ok(), get(2, 1, 0).is(zeros()...), read(2, 1, 0).fails(api.ErrCap),
		grant(1, 1, 2, all).is(1), revokeBlocks(1, 1).ok(), read(2, 1, 0).is(0), get(2, 1, 0).fails(api.ErrCap),
		free(1, 1).ok(), get(1, 1, 0).is(zeros()...), read(3, 1, 0).fails(api.ErrCap), mapRead(3, 0, 1).fails(api.ErrCap), free(3, 1).fails(api.ErrCap),
	)
}

// 13.1: 11 and 12.
func TestMessages(t *testing.T) {
	eight := words(1 << 40)[:api.MaxMessage]
	behind(t,
		recv(1).is(2, 7, 8), recv(1).fails(api.ErrNone), recv(2).is(3), recv(2).fails(api.ErrNone), recv(0).fails(api.ErrNone),
		send(1, 1).ok(), send(1, 1, 4).ok(), recv(1).is(1), recv(1).is(1, 4), // to oneself
		send(0, lastEnv, eight...).ok(), send(lastEnv, lastEnv).ok(), send(2, lastEnv, 0).ok(), send(0, lastEnv, 6).ok(),
		send(3, lastEnv).fails(api.ErrFull), send(lastEnv, lastEnv, eight...).fails(api.ErrFull),
		raw(3, append([]uint64{11, lastEnv, 1}, eight...)...).failsArg(), send(3, 4, 1).failsArg(), // ahead of ErrFull
		send(3, 0, 1).ok(), // only that one is full
		recv(lastEnv).is(append([]uint64{0}, eight...)...), send(3, lastEnv, 5).ok(), send(3, lastEnv).fails(api.ErrFull),
		recv(lastEnv).is(lastEnv), recv(lastEnv).is(2, 0), recv(lastEnv).is(0, 6), recv(lastEnv).is(3, 5), recv(lastEnv).fails(api.ErrNone),
		recv(0).is(3, 1), recv(0).fails(api.ErrNone),
	)
	for n := range api.MaxMessage + 1 {
		behind(t, send(1, 3, eight[:n]...).ok(), recv(3).is(append([]uint64{1}, eight[:n]...)...))
	}
}

// 13.1: 13, 16 and 17.
func TestBlocks(t *testing.T) {
	behind(t,
		allocBlocks(2, 0, 0).failsArg(), allocBlocks(2, 8, 1).failsArg(), allocBlocks(2, 7, 2).failsArg(), allocBlocks(2, 0, 9).failsArg(), allocBlocks(2, 2, 9).failsArg(), // ahead of ErrCap
		allocBlocks(2, 0, 3).fails(api.ErrCap), allocBlocks(2, 4, 1).fails(api.ErrCap), allocBlocks(1, 4, 4).fails(api.ErrCap), allocBlocks(2, 0, 8).fails(api.ErrCap),
		allocBlocks(2, 5, 3).is(1), allocBlocks(2, 0, 2).is(2),
		get(1, 1, 1).fails(api.ErrCap), get(1, 1, 2).is(zeros()...), get(1, 1, 4).is(zeros()...), get(1, 1, 5).fails(api.ErrCap), get(1, 2, 3).fails(api.ErrCap), get(1, 0, 3).fails(api.ErrCap), get(2, 1, 3).fails(api.ErrCap), get(2, 1, 8).fails(api.ErrCap),
		put(1, 1, 1, words(1)).fails(api.ErrCap), put(1, 1, 5, words(1)).fails(api.ErrCap), put(1, 2, 3, words(1)).fails(api.ErrCap), put(3, 1, 3, words(1)).fails(api.ErrCap), put(1, 65, 3, words(1)).fails(api.ErrCap),
		put(1, 1, 2, words(2)).ok(), put(1, 1, 4, words(4)).ok(), put(2, 1, 7, words(7)).ok(), put(2, 2, 0, words(9)).ok(),
		get(1, 1, 2).is(words(2)...), get(1, 1, 3).is(words(5)...), get(3, 1, 4).is(words(4)...), get(2, 1, 7).is(words(7)...), get(2, 2, 0).is(words(9)...), get(2, 2, 1).is(zeros()...),
	)
	// 31 and 33 words are no Put, whoever makes it.
	for _, n := range []int{0, 1, 31, 33, 64} {
		l := append(words(1), words(2)...)[:n]
		behind(t, put(1, 1, 3, l).failsArg(), put(3, 1, 3, l).failsArg(), put(1, 9, 3, l).failsArg())
	}
}
