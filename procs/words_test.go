package procs_test

import (
	"math"
	"slices"
	"testing"

	"janus/api"
	"janus/procs"
)

// The words of a pid.
func free() []uint64                        { return word(0, 0, 0) }
func lives(parent int) []uint64             { return word(1, uint64(parent), 0) }
func zombie(parent int, st uint64) []uint64 { return word(2, uint64(parent), st) }
func word(mark, parent, st uint64) []uint64 { return []uint64{mark, parent, st} }

// wordsOf is the words of the first pids, as they are told; the others are free.
func wordsOf(pids ...[]uint64) []uint64 {
	return append(slices.Concat(pids...), slices.Repeat(free(), lastPid-len(pids))...)
}

// put is the words with others of that pid.
func put(w []uint64, pid int, of []uint64) []uint64 {
	l := slices.Clone(w)
	copy(l[3*pid-3:], of)
	return l
}

// wantWords asks for the words behind the steps, and for the same back from them; both are used up.
func wantWords(t *testing.T, want []uint64, steps ...step) {
	t.Helper()
	p := play(t, append(slices.Clone(steps), encode().words(want))...)
	wantSame(t, encode(), wantBack(t, p), p)
}

// wantBack asks for the same one from its words, and answers that.
func wantBack(t *testing.T, p *procs.Procs) *procs.Procs {
	t.Helper()
	return wantRead(t, p.Encode())
}

// wantRead asks for the one whose Encode is w.
func wantRead(t *testing.T, w []uint64) *procs.Procs {
	t.Helper()
	p, e := procs.Decode(w)
	if p == nil || e != api.OK {
		t.Fatalf("Decode(%v) = %v, %d", w, p, e)
	}
	if v := p.Encode(); !slices.Equal(v, w) {
		t.Fatalf("%v became %v", w, v)
	}
	wantAgreed(t, encode(), p)
	return p
}

// wantNone asks for a refusal.
func wantNone(t *testing.T, w []uint64) {
	t.Helper()
	if p, e := procs.Decode(w); p != nil || e != api.ErrArg {
		t.Errorf("Decode of %d words, %v = %v, %d, want nil, ErrArg", len(w), w[:min(30, len(w))], p, e)
	}
}

func TestEncodeOfNone(t *testing.T) {
	wantWords(t, make([]uint64, 24))
	wantWords(t, wordsOf(), begin().gives(1), exit(1, 5).ok())
	wantWords(t, wordsOf(), append(begun(1), exit(2, 5).ok(), exit(1, 5).ok())...)
}

func TestEncodeOfOne(t *testing.T) {
	wantWords(t, append([]uint64{1}, make([]uint64, 23)...), begin().gives(1))
	for _, pid := range allBut(1) {
		l := joined(flat(), steps(exit(1, 0).ok()))
		for _, other := range allBut(1, pid) {
			l = append(l, exit(other, other).ok())
		}
		wantWords(t, put(wordsOf(), pid, lives(0)), l...)
	}
}

func TestEncodeOfAll(t *testing.T) {
	one := lives(1)
	wantWords(t, wordsOf(lives(0), one, one, one, one, one, one, one), flat()...)
	wantWords(t, wordsOf(lives(0), one, lives(2), lives(3), lives(4), lives(5), lives(6), lives(7)), chain()...)
	wantWords(t, wordsOf(lives(8), lives(0), lives(0), lives(0), lives(0), lives(0), lives(0), lives(0)), append(flat(), exit(1, 0).ok(), fork(8).gives(1))...)
}

func TestEncodeOfZombies(t *testing.T) {
	for _, pid := range allBut(1) {
		for _, status := range statuses() {
			all := wordsOf(lives(0), lives(1), lives(1), lives(1), lives(1), lives(1), lives(1), lives(1))
			wantWords(t, put(all, pid, zombie(1, uint64(status))), append(flat(), exit(pid, status).ok())...)
			wantWords(t, put(all, pid, free()), append(flat(), exit(pid, status).ok(), wait(1).tells(pid, status))...)
			wantWords(t, all, append(flat(), exit(pid, status).ok(), wait(1).tells(pid, status), fork(1).gives(pid))...)
		}
	}
	l, all := flat(), [][]uint64{lives(0)}
	for _, pid := range allBut(1) {
		l, all = append(l, exit(pid, -pid).ok()), append(all, zombie(1, -uint64(pid)))
	}
	wantWords(t, wordsOf(all...), l...)
}

func TestEncodeOfStatusesBelow0(t *testing.T) {
	for status, want := range map[int]uint64{-1: 1<<64 - 1, -2: 1<<64 - 2, -256: 1<<64 - 256, math.MinInt: 1 << 63, math.MinInt + 1: 1<<63 + 1, math.MaxInt: 1<<63 - 1} {
		wantWords(t, wordsOf(lives(0), zombie(1, want)), append(begun(1), exit(2, status).ok())...)
	}
}

func TestEncodeOfWhatIsNobodys(t *testing.T) {
	wantWords(t, wordsOf(free(), lives(0), lives(2), lives(0)), append(begun(1, 2, 1), exit(1, 0).ok())...)
	wantWords(t, wordsOf(lives(0), zombie(1, 9), lives(0)), append(begun(1, 2), exit(2, 9).ok())...)
	wantWords(t, wordsOf(lives(0), zombie(1, 5), free(), lives(0), lives(4), zombie(4, 6)), append(begun(1, 2, 2, 4, 4), exit(3, 3).ok(), exit(6, 6).ok(), exit(2, 5).ok())...)
	wantWords(t, wordsOf(lives(0), zombie(1, 1<<64-2), lives(5), free(), lives(0), lives(5), zombie(1, 1<<40), zombie(5, 255)), busy()...)
}

func TestEncodeBehindEachCall(t *testing.T) {
	play(t,
		encode().words(wordsOf()),
		begin().gives(1), encode().words(wordsOf(lives(0))),
		begin().gives(0), encode().words(wordsOf(lives(0))),
		fork(1).gives(2), encode().words(wordsOf(lives(0), lives(1))),
		fork(2).gives(3), encode().words(wordsOf(lives(0), lives(1), lives(2))),
		fork(2).gives(4), encode().words(wordsOf(lives(0), lives(1), lives(2), lives(2))),
		fork(9).fails(api.ESRCH), encode().words(wordsOf(lives(0), lives(1), lives(2), lives(2))),
		exit(3, 7).ok(), encode().words(wordsOf(lives(0), lives(1), zombie(2, 7), lives(2))),
		wait(1).waits(), encode().words(wordsOf(lives(0), lives(1), zombie(2, 7), lives(2))),
		wait(4).fails(api.ECHILD), encode().words(wordsOf(lives(0), lives(1), zombie(2, 7), lives(2))),
		exit(3, 8).fails(api.ESRCH), encode().words(wordsOf(lives(0), lives(1), zombie(2, 7), lives(2))),
		exit(2, -1).ok(), encode().words(wordsOf(lives(0), zombie(1, 1<<64-1), free(), lives(0))),
		fork(4).gives(3), encode().words(wordsOf(lives(0), zombie(1, 1<<64-1), lives(4), lives(0))),
		wait(1).tells(2, -1), encode().words(wordsOf(lives(0), free(), lives(4), lives(0))),
		exit(1, 0).ok(), encode().words(wordsOf(free(), free(), lives(4), lives(0))),
		exit(3, 0).ok(), encode().words(wordsOf(free(), free(), zombie(4, 0), lives(0))),
		exit(4, 0).ok(), encode().words(wordsOf()),
	)
}

// good is words that can be read.
func good() [][]uint64 {
	one := lives(1)
	return [][]uint64{
		wordsOf(),
		wordsOf(lives(0)),
		put(wordsOf(), 8, lives(0)),
		slices.Repeat(lives(0), 8),
		wordsOf(lives(0), one, one, one, one, one, one, one),
		wordsOf(lives(0), one, lives(2), lives(3), lives(4), lives(5), lives(6), lives(7)),
		wordsOf(lives(2), lives(3), lives(4), lives(5), lives(6), lives(7), lives(8), lives(0)),
		wordsOf(lives(3), lives(5), lives(8), lives(6), lives(0), lives(2), lives(4), lives(7)),
		wordsOf(zombie(8, 1), zombie(8, 0), zombie(8, 1<<64-1), zombie(8, 1<<63), zombie(8, 1<<63-1), zombie(8, 255), zombie(8, 1<<32), lives(0)),
		wordsOf(lives(0), zombie(1, 1<<64-2), lives(5), free(), lives(0), lives(5), zombie(1, 1<<40), zombie(5, 255)),
		wordsOf(free(), lives(4), free(), lives(6), free(), lives(0), free(), zombie(2, 5)),
	}
}

func TestDecodeOfGoodWords(t *testing.T) {
	for _, w := range good() {
		wantSame(t, encode(), wantBack(t, wantRead(t, w)), wantRead(t, w))
	}
	p := wantRead(t, wordsOf(lives(0), zombie(1, 1<<64-2), lives(5), free(), lives(0), lives(5), zombie(1, 1<<40), zombie(5, 255)))
	for _, x := range steps(
		begin().gives(0), wait(1).tells(2, -2), wait(3).fails(api.ECHILD), wait(2).fails(api.ESRCH), wait(4).fails(api.ESRCH), exit(7, 3).fails(api.ESRCH),
		wait(1).tells(7, 1<<40), wait(1).fails(api.ECHILD), fork(3).gives(2), fork(3).gives(4), wait(5).tells(8, 255), wait(5).waits(),
		exit(5, 1).ok(), parent(3).gives(0), parent(6).gives(0), parent(2).gives(3), all().are(1, 2, 3, 4, 6),
	) {
		if got := x.on(p); !got.same(x.want) {
			t.Errorf("%v answers %v, want %v", x.call, got, x.want)
		}
	}
	p = wantRead(t, wordsOf())
	if got := p.Begin(); got != 1 {
		t.Errorf("Begin() = %d", got)
	}
}

func TestDecodeOfOtherThanItsLength(t *testing.T) {
	wantNone(t, nil)
	wantNone(t, []uint64{})
	for n := range 100 {
		if n != 24 {
			wantNone(t, make([]uint64, n))
		}
	}
	for _, w := range good() {
		for n := range len(w) {
			wantNone(t, w[:n]) // what lies behind its end is none of a list's
		}
		for _, more := range []uint64{0, 1, math.MaxUint64} {
			wantNone(t, append(slices.Clone(w), more))
			wantNone(t, append([]uint64{more}, w...))
		}
		wantNone(t, append(slices.Clone(w), free()...))
		wantNone(t, append(slices.Clone(w), w...))
	}
	wantNone(t, make([]uint64, 1<<20))
	wantNone(t, slices.Repeat([]uint64{math.MaxUint64}, 1<<20))
	wantNone(t, slices.Repeat([]uint64{math.MaxUint64}, 24))
}

// wide is words that are no small numbers, among them some that would be if bits were lost, or if they were counted round.
func wide() []uint64 {
	return []uint64{255, 256, 257, 258, 1 << 16, 1<<16 + 1, 1 << 31, 1 << 32, 1<<32 + 1, 1<<32 + 2, 1<<32 + 8, 1 << 62, 1<<62 + 1, 1<<63 - 1, 1 << 63, 1<<63 + 1, 1<<63 + 2, 1<<63 + 8, math.MaxUint64 - 8, math.MaxUint64 - 2, math.MaxUint64 - 1, math.MaxUint64}
}

func TestDecodeOfAMark(t *testing.T) {
	for pid := 1; pid <= lastPid; pid++ {
		for _, mark := range append(wide(), 3, 4, 5, 6, 7, 8, 9, 10) {
			wantNone(t, put(wordsOf(), pid, word(mark, 0, 0)))
			wantNone(t, put(wordsOf(), pid, word(mark, 0, 5)))
			for _, w := range good() {
				wantNone(t, put(w, pid, word(mark, w[3*pid-2], w[3*pid-1])))
			}
		}
	}
}

func TestDecodeOfAParent(t *testing.T) {
	flat := slices.Repeat(lives(0), 8)
	for pid := 1; pid <= lastPid; pid++ {
		for _, whose := range append(wide(), 9, 10, 11, 16) {
			wantNone(t, put(wordsOf(), pid, word(1, whose, 0)))
			for mark := range uint64(3) {
				wantNone(t, put(flat, pid, word(mark, whose, 0)))
			}
		}
		for whose := range lastPid + 1 {
			if whose == pid { // its own
				wantNone(t, put(flat, pid, lives(whose)))
				wantNone(t, put(flat, pid, zombie(whose, 5)))
				wantNone(t, put(wordsOf(), pid, lives(whose)))
				wantNone(t, put(wordsOf(), pid, zombie(whose, 5)))
				continue
			}
			wantRead(t, put(flat, pid, lives(whose)))
			if whose == 0 {
				wantNone(t, put(flat, pid, zombie(0, 5))) // it would be gone
				wantNone(t, put(wordsOf(), pid, zombie(0, 0)))
				continue
			}
			wantRead(t, put(flat, pid, zombie(whose, 5)))
			for _, w := range [][]uint64{put(flat, whose, free()), wordsOf()} { // a parent that is free
				wantNone(t, put(w, pid, lives(whose)))
				wantNone(t, put(w, pid, zombie(whose, 5)))
			}
		}
	}
}

// A zombie's parent lives; that of one that lives is in use.
func TestDecodeOfAParentThatIsAZombie(t *testing.T) {
	for _, pid := range allPids() {
		for _, z := range allBut(pid) {
			for _, live := range allBut(pid, z) {
				w := put(put(wordsOf(), live, lives(0)), z, zombie(live, 4))
				wantNone(t, put(w, pid, zombie(z, 5)))
				wantNone(t, put(w, pid, zombie(z, 0)))
				wantRead(t, put(w, pid, lives(z)))
				wantNone(t, put(put(w, pid, lives(z)), live, lives(pid)))
			}
		}
	}
}

func TestDecodeOfAFreeOne(t *testing.T) {
	flat := slices.Repeat(lives(0), 8)
	for pid := 1; pid <= lastPid; pid++ {
		for _, w := range [][]uint64{flat, wordsOf(), put(wordsOf(), 1, lives(0)), put(wordsOf(), 8, lives(0))} {
			wantRead(t, put(w, pid, free()))
			for whose := range uint64(10) {
				if whose > 0 {
					wantNone(t, put(w, pid, word(0, whose, 0)))
				}
				for _, status := range append(wide(), 1, 2, 5) {
					wantNone(t, put(w, pid, word(0, whose, status)))
				}
			}
		}
	}
}

func TestDecodeOfAStatus(t *testing.T) {
	flat := slices.Repeat(lives(0), 8)
	for pid := 1; pid <= lastPid; pid++ {
		whose := pid%lastPid + 1
		for _, status := range append(wide(), 1, 2, 5, 127) {
			wantNone(t, put(flat, pid, word(1, 0, status)))
			wantNone(t, put(flat, pid, word(1, uint64(whose), status)))
			p := wantRead(t, put(flat, pid, zombie(whose, status)))
			if got := wait(whose).on(p); !got.same(answer{n: pid, status: int(status), is: true}) {
				t.Errorf("of status %d Wait tells %v", status, got)
			}
		}
	}
}

// Any number of them that are one another's, in any order, alone and with others that are theirs.
func TestDecodeOfARound(t *testing.T) {
	orders := [][]int{{1, 2, 3, 4, 5, 6, 7, 8}, {8, 7, 6, 5, 4, 3, 2, 1}, {3, 7, 1, 8, 2, 6, 5, 4}, {5, 6, 1, 4, 8, 7, 3, 2}}
	for _, order := range orders {
		for n := 1; n <= lastPid; n++ {
			w := wordsOf()
			for i, pid := range order[:n] {
				w = put(w, pid, lives(order[(i+1)%n]))
			}
			wantNone(t, w)
			wantRead(t, put(w, order[0], lives(0)))
			wantRead(t, put(w, order[n-1], lives(0)))
			wantNone(t, put(w, order[0], zombie(order[1%n], 5))) // by way of a zombie
			for i := n; i < lastPid; i++ {                       // a chain that leads to it, and others that lead nowhere
				wantNone(t, put(w, order[i], lives(0)))
				w = put(w, order[i], lives(order[i-1]))
				wantNone(t, w)
				wantRead(t, put(w, order[0], lives(0)))
			}
		}
	}
	wantNone(t, wordsOf(lives(2), lives(1)))
	wantNone(t, wordsOf(lives(0), lives(3), lives(2)))
	wantNone(t, wordsOf(lives(2), lives(3), lives(1)))
	wantNone(t, wordsOf(lives(2), lives(1), lives(4), lives(3)))
	wantNone(t, wordsOf(lives(2), zombie(1, 5)))
}

// mayRead is what the chapter says of words, asked one by one: a way of parents that comes to nobody is no longer than there are pids.
func mayRead(w []uint64) bool {
	if len(w) != 24 {
		return false
	}
	mark := func(pid uint64) uint64 { return w[3*pid-3] }
	whose := func(pid uint64) uint64 { return w[3*pid-2] }
	for pid := uint64(1); pid <= 8; pid++ {
		if mark(pid) > 2 || whose(pid) > 8 || mark(pid) < 2 && w[3*pid-1] != 0 {
			return false
		}
	}
	for pid := uint64(1); pid <= 8; pid++ {
		is := whose(pid)
		if mark(pid) == 0 && is != 0 || mark(pid) == 2 && is == 0 || is != 0 && mark(is) == 0 || is != 0 && mark(pid) == 2 && mark(is) != 1 {
			return false
		}
		seen := map[uint64]bool{}
		for at := pid; at != 0; at = whose(at) {
			if seen[at] {
				return false
			}
			seen[at] = true
		}
	}
	return true
}

// wantAsMay asks Decode for what mayRead says, and answers whether that is something.
func wantAsMay(t *testing.T, w []uint64) bool {
	t.Helper()
	if !mayRead(w) {
		wantNone(t, w)
		return false
	}
	wantRead(t, w)
	return true
}

func wantBothKinds(t *testing.T, can, cannot, least int) {
	t.Helper()
	if can < least || cannot < least {
		t.Errorf("%d were read, %d were not", can, cannot)
	}
}

// All marks and parents of three pids, at the front, at the end, and between.
func TestDecodeOfAllTreesOfThree(t *testing.T) {
	can, cannot := 0, 0
	for _, at := range [][]int{{1, 2, 3}, {6, 7, 8}, {2, 5, 8}} {
		whose := append([]int{0, 4}, at...)
		for row := range 15 * 15 * 15 {
			w, left := wordsOf(), row
			for _, pid := range at {
				w = put(w, pid, word(uint64(left%3), uint64(whose[left/3%5]), 0))
				left /= 15
			}
			if wantAsMay(t, w) {
				can++
			} else {
				cannot++
			}
		}
	}
	wantBothKinds(t, can, cannot, 100)
}

// Each word of words that can be read, changed to each that may be wrong.
func TestDecodeOfAnyOneWordChanged(t *testing.T) {
	can, cannot := 0, 0
	for _, w := range good() {
		for i := range w {
			for _, v := range append(wide(), 0, 1, 2, 3, 4, 5, 6, 7, 8, 9, 10) {
				bad := slices.Clone(w)
				bad[i] = v
				if wantAsMay(t, bad) {
					can++
				} else {
					cannot++
				}
			}
		}
	}
	wantBothKinds(t, can, cannot, 500)
}

// Words that are changed at one or two places, cut, or drawn whole.
func TestDecodeOfDrawnWords(t *testing.T) {
	can, cannot := 0, 0
	for seed := range 20000 {
		d := dice(seed)
		p := fresh(t)
		for range d.below(40) {
			d.call(8).on(p)
		}
		w := p.Encode()
		for range d.below(3) {
			w[d.below(len(w))] = pickOf(&d, append(wide(), 0, 0, 0, 1, 1, 1, 2, 2, 3, 4, 5, 6, 7, 8, 8))
		}
		switch d.below(20) {
		case 0:
			w = w[:d.below(len(w))]
		case 1:
			for i := range w {
				w[i] = uint64(d.below(3))
			}
		case 2, 3, 4: // all in use, each any one's
			for _, pid := range allPids() {
				w = put(w, pid, pickOf(&d, [][]uint64{lives(d.below(9)), lives(d.below(9)), lives(0), zombie(d.below(9), 4)}))
			}
		}
		if wantAsMay(t, w) {
			can++
		} else {
			cannot++
		}
	}
	wantBothKinds(t, can, cannot, 3000)
}
