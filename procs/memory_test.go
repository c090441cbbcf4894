package procs_test

import (
	"slices"
	"testing"

	"janus/procs"
)

// spoil writes over a list, and behind its end as far as it reaches.
func spoil[T any](l []T, with T) {
	l = l[:cap(l)]
	for i := range l {
		l[i] = with
	}
}

// roomy is the words with others behind the list's end.
func roomy(w []uint64) []uint64 {
	l := append(slices.Clone(w), slices.Repeat([]uint64{1}, 100)...)
	return l[:len(w)]
}

func TestWordsHandedOutAreNewMemory(t *testing.T) {
	p, other := play(t, busy()...), play(t, busy()...)
	w, v := p.Encode(), p.Encode()
	want := slices.Clone(w)
	spoil(w, 1)
	if !slices.Equal(v, want) {
		t.Errorf("another answer is %v behind the change, want %v", v, want)
	}
	spoil(v, 0)
	wantSame(t, encode(), p, other)
}

func TestPidsHandedOutAreNewMemory(t *testing.T) {
	p, other := play(t, busy()...), play(t, busy()...)
	a, b := p.All(), p.All()
	want := slices.Clone(a)
	spoil(a, 2)
	if !slices.Equal(b, want) {
		t.Errorf("another answer is %v behind the change, want %v", b, want)
	}
	spoil(b, 0)
	wantSame(t, all(), p, other)
}

func TestLaterCallsLeaveWhatWasHandedOut(t *testing.T) {
	p := play(t, busy()...)
	words, pids := p.Encode(), p.All()
	wantWords, wantPids := slices.Clone(words), slices.Clone(pids)
	for _, c := range usesUp() {
		c.on(p)
	}
	if !slices.Equal(words, wantWords) || !slices.Equal(pids, wantPids) {
		t.Errorf("Encode was %v, All %v behind later calls", words, pids)
	}
}

func TestDecodeKeepsNothingOfItsWords(t *testing.T) {
	for with := range uint64(4) {
		words := roomy(play(t, busy()...).Encode())
		p, _ := procs.Decode(words)
		spoil(words, with)
		wantSame(t, encode(), p, play(t, busy()...))
	}
}

func TestDecodeLeavesItsWords(t *testing.T) {
	good := play(t, busy()...).Encode()
	for bad := -1; bad < len(good); bad++ {
		words := roomy(good)
		if bad >= 0 {
			words[bad] = 999
		}
		want := slices.Clone(words[:cap(words)])
		p, _ := procs.Decode(words)
		for _, c := range usesUp() {
			c.on(p)
		}
		if !slices.Equal(words[:cap(words)], want) {
			t.Errorf("words that were handed in are %v, were %v", words[:cap(words)], want)
		}
	}
}

func TestDecodeMakesThemApart(t *testing.T) {
	words := play(t, busy()...).Encode()
	p, _ := procs.Decode(words)
	other, _ := procs.Decode(words)
	for _, c := range usesUp() {
		c.on(p)
	}
	wantSame(t, encode(), other, play(t, busy()...))
}

func TestNewMakesThemApart(t *testing.T) {
	p, other := fresh(t), fresh(t)
	for _, x := range busy() {
		x.on(p)
	}
	wantSame(t, encode(), other, fresh(t))
}
