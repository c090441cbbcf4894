package signals_test

import (
	"slices"
	"testing"

	"janus/api"
	"janus/signals"
)

// spoil writes over a list, and behind its end as far as it reaches.
func spoil(l []uint64, with uint64) {
	l = l[:cap(l)]
	for i := range l {
		l[i] = with
	}
}

// roomy is the words with others behind the list's end.
func roomy(w []uint64) []uint64 {
	l := append(slices.Clone(w), slices.Repeat([]uint64{1}, 100)...)
	return l[:len(w)]
}

func TestWordsHandedOutAreNewMemory(t *testing.T) {
	s, other := play(t, busy()...), play(t, busy()...)
	w, v := s.Encode(), s.Encode()
	want := slices.Clone(w)
	spoil(w, 1)
	if !slices.Equal(v, want) {
		t.Errorf("another answer is %v behind the change, want %v", v, want)
	}
	spoil(v, 0)
	wantSame(t, encode(), s, other)
}

func TestLaterCallsLeaveWhatWasHandedOut(t *testing.T) {
	s := play(t, busy()...)
	words := s.Encode()
	v, _ := s.Leave(1)
	wantWords, wantVm := slices.Clone(words), at(v.Pc, slices.Clone(v.Stack)...)
	s.Enter(1, at(8, stack(32)...))
	for _, c := range usesUp() {
		c.on(s)
	}
	if !slices.Equal(words, wantWords) || !sameVm(v, wantVm) {
		t.Errorf("Encode was %v, Leave %v behind later calls", words, v)
	}
}

func TestEnterKeepsNothingOfItsStack(t *testing.T) {
	for _, n := range []int{0, 1, 2, 31, 32, 33} {
		mine := roomy(stack(n))
		want := slices.Clone(mine[:cap(mine)])
		s := fresh(t)
		if e := s.Enter(1, api.Vm{Pc: 4, Stack: mine}); e != api.OK {
			t.Fatalf("Enter answers %d", e)
		}
		s.Enter(1, api.Vm{Pc: 4, Stack: mine}) // one that is refused keeps nothing of it either
		if !slices.Equal(mine[:cap(mine)], want) {
			t.Errorf("the stack that was handed in is %v, was %v", mine[:cap(mine)], want)
		}
		spoil(mine, 3)
		if v, e := s.Leave(1); e != api.OK || !sameVm(v, at(4, stack(n)...)) {
			t.Errorf("Leave answers %v, %d behind the change", v, e)
		}
	}
}

// What one Leave handed out is not what another, or an Encode, tells.
func TestLeaveHandsOutNewMemory(t *testing.T) {
	for _, n := range []int{1, 2, 31, 32, 33} {
		mine := roomy(stack(n))
		s := play(t, enter(1, at(4, stack(n)...)).ok(), fork(1, 2).ok(), fork(2, 3).ok(), leave(2).gives(at(4, stack(n)...)))
		if e := s.Enter(2, at(4, mine...)); e != api.OK {
			t.Fatalf("Enter answers %d", e)
		}
		want := s.Encode()
		a, _ := s.Leave(1)
		spoil(a.Stack, 99)
		if mine[0] != stack(n)[0] {
			t.Error("what Leave handed out is what was handed in")
		}
		s.Enter(1, at(4, stack(n)...))
		if got := s.Encode(); !slices.Equal(got, want) {
			t.Errorf("Encode answers %v behind the change, want %v", got, want)
		}
		for _, pid := range []int{2, 3, 1} {
			v, e := s.Leave(pid)
			if e != api.OK || !sameVm(v, at(4, stack(n)...)) {
				t.Errorf("Leave(%d) answers %v, %d behind the change", pid, v, e)
			}
			spoil(v.Stack, 98)
		}
		if mine[0] != stack(n)[0] {
			t.Error("what Leave handed out is what was handed in")
		}
	}
}

// Parent and child have a stack of their own each.
func TestForkSharesNoMemory(t *testing.T) {
	for _, first := range []int{1, 2} {
		s := play(t, enter(1, at(4, 5, 6)).ok(), fork(1, 2).ok())
		v, _ := s.Leave(first)
		spoil(v.Stack, 99)
		if v, e := s.Leave(3 - first); e != api.OK || !sameVm(v, at(4, 5, 6)) {
			t.Errorf("Leave(%d) answers %v, %d behind a change of the other's", 3-first, v, e)
		}
	}
}

func TestDecodeKeepsNothingOfItsWords(t *testing.T) {
	words := roomy(play(t, busy()...).Encode())
	s, e := signals.Decode(words)
	if s == nil || e != api.OK {
		t.Fatalf("Decode(%v) = %v, %d", words, s, e)
	}
	spoil(words, 3)
	wantSame(t, encode(), s, play(t, busy()...))
}

// What a Leave of one that was read hands out is not what was read.
func TestDecodeLeavesItsWords(t *testing.T) {
	good := play(t, busy()...).Encode()
	for bad := -1; bad < len(good); bad++ {
		words := roomy(good)
		if bad >= 0 {
			words[bad] = 999
		}
		want := slices.Clone(words[:cap(words)])
		s, _ := signals.Decode(words)
		for _, pid := range allPids() {
			v, _ := s.Leave(pid)
			spoil(v.Stack, 77)
		}
		for _, c := range usesUp() {
			c.on(s)
		}
		if !slices.Equal(words[:cap(words)], want) {
			t.Errorf("words that were handed in are %v, were %v", words[:cap(words)], want)
		}
	}
}

func TestDecodeMakesThemApart(t *testing.T) {
	words := play(t, busy()...).Encode()
	s, _ := signals.Decode(words)
	other, _ := signals.Decode(words)
	v, _ := s.Leave(1)
	spoil(v.Stack, 77)
	for _, c := range usesUp() {
		c.on(s)
	}
	wantSame(t, encode(), other, play(t, busy()...))
}
