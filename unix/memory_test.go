package unix_test

import (
	"slices"
	"testing"

	"janus/api"
	"janus/unix"
)

// spoil writes over a list, and behind its end as far as it reaches.
func spoil[T any](l []T, with T) {
	l = l[:cap(l)]
	for i := range l {
		l[i] = with
	}
}

// roomy is the words with others behind the list's end.
func roomy(w []uint64) []uint64 {
	l := append(slices.Clone(w), slices.Repeat([]uint64{1}, 100)...)
	return l[:len(w)]
}

func TestWordsHandedOutAreNewMemory(t *testing.T) {
	w, other := play(t, busy()...), play(t, busy()...)
	a, b := w.c.Encode(), w.c.Encode()
	want := slices.Clone(a)
	spoil(a, 1)
	if !slices.Equal(b, want) {
		t.Errorf("another answer is %v behind the change, want %v", b, want)
	}
	spoil(b, 0)
	wantSame(t, encode(), w, other)
}

func TestPidsHandedOutAreNewMemory(t *testing.T) {
	w, other := play(t, busy()...), play(t, busy()...)
	a, b := w.c.Pids(), w.c.Pids()
	want := slices.Clone(a)
	spoil(a, 8)
	if !slices.Equal(b, want) {
		t.Errorf("another answer is %v behind the change, want %v", b, want)
	}
	spoil(b, 0)
	wantSame(t, pids(), w, other)
}

// A machine that was handed out is not what is kept, nor what another answer, a child or the words have.
func TestSavedHandsOutNewMemory(t *testing.T) {
	w, other := play(t, append(busy(), fork(1).gives(8))...), play(t, append(busy(), fork(1).gives(8))...)
	a, _ := w.c.Saved(1)
	b, _ := w.c.Saved(1)
	c, _ := w.c.Saved(8)
	for _, v := range []api.Vm{a, b, c} {
		if !sameVm(v, at(5, 6, 7)) {
			t.Fatalf("Saved answers %v", v)
		}
	}
	spoil(a.Stack, 99)
	if !sameVm(b, at(5, 6, 7)) || !sameVm(c, at(5, 6, 7)) {
		t.Errorf("other answers are %v, %v behind the change", b, c)
	}
	spoil(b.Stack, 98)
	if v, is := w.c.Saved(8); !is || !sameVm(v, at(5, 6, 7)) {
		t.Errorf("Saved answers %v, %v behind the change", v, is)
	}
	wantSame(t, saved(1), w, other)
}

func TestSignalKeepsNothingOfItsStack(t *testing.T) {
	for _, n := range []int{0, 1, 2, 31, 32} {
		mine := make([]uint64, n)
		for i := range mine {
			mine[i] = uint64(i) << 50
		}
		want := slices.Clone(mine)
		mine = roomy(mine)
		all := slices.Clone(mine[:cap(mine)])
		w := play(t, begin(1).ok(), signal(1, 3, 40).ok(), kill(1, 1, 3).ok())
		for range 3 { // one that none comes to, or that comes by default, keeps nothing of it either
			w.c.Signal(1, api.Vm{Pc: 4, Stack: mine})
			kill(1, 1, 9).on(w)
		}
		saved, _ := w.c.Saved(1)
		spoil(saved.Stack, 5)
		if !slices.Equal(mine[:cap(mine)], all) {
			t.Errorf("the stack that was handed in is %v, was %v", mine[:cap(mine)], all)
		}
		spoil(mine, 3)
		if v, is := w.c.Saved(1); !is || !sameVm(v, at(4, want...)) {
			t.Errorf("Saved answers %v, %v behind the change", v, is)
		}
	}
}

func TestLaterCallsLeaveWhatWasHandedOut(t *testing.T) {
	w := play(t, busy()...)
	words, l := w.c.Encode(), w.c.Pids()
	v, _ := w.c.Saved(1)
	wantWords, wantPids := slices.Clone(words), slices.Clone(l)
	for _, c := range usesUp() {
		c.on(w)
	}
	if !slices.Equal(words, wantWords) || !slices.Equal(l, wantPids) || !sameVm(v, at(5, 6, 7)) {
		t.Errorf("Encode was %v, Pids %v, Saved %v behind later calls", words, l, v)
	}
}

func TestDecodeKeepsNothingOfItsWords(t *testing.T) {
	for with := range uint64(4) {
		w, other := play(t, busy()...), play(t, busy()...)
		words := roomy(w.c.Encode())
		w.c, _ = unix.Decode(words)
		spoil(words, with)
		wantSame(t, encode(), w, other)
	}
}

func TestDecodeLeavesItsWords(t *testing.T) {
	good := play(t, busy()...).c.Encode()
	for bad := -1; bad < len(good); bad += 3 {
		words := roomy(good)
		if bad >= 0 {
			words[bad] = 999
		}
		want := slices.Clone(words[:cap(words)])
		w := play(t, busy()...)
		w.c, _ = unix.Decode(words)
		v, _ := w.c.Saved(1)
		spoil(v.Stack, 77)
		for _, c := range usesUp() {
			c.on(w)
		}
		if !slices.Equal(words[:cap(words)], want) {
			t.Errorf("words that were handed in are %v, were %v", words[:cap(words)], want)
		}
	}
}

func TestDecodeMakesThemApart(t *testing.T) {
	w, other := play(t, busy()...), play(t, busy()...)
	words := w.c.Encode()
	twin := copyOf(t, w)
	w.c, _ = unix.Decode(words)
	twin.c, _ = unix.Decode(words)
	for _, c := range usesUp() {
		c.on(w)
	}
	wantSame(t, encode(), twin, other)
}
