package pipes_test

import (
	"slices"
	"strings"
	"testing"
	"unsafe"

	"janus/api"
	"janus/pipes"
)

// spoil writes over a list, and behind its end as far as it reaches.
func spoil(l []uint64, with uint64) {
	l = l[:cap(l)]
	for i := range l {
		l[i] = with
	}
}

// busy has pipes that are empty, full and between, and one whose ring goes round.
func busy() []step {
	return joined(made(5), steps(
		put(1, "abcdefgh").is(8),
		put(2, "xyz").is(3),
		put(3, "1234567").is(7), take(3, 5).tells("12345"), put(3, "890").is(3),
		drop(4).ok(),
	))
}

func TestWordsHandedOutAreNewMemory(t *testing.T) {
	p, q := play(t, busy()...), play(t, busy()...)
	w, v := p.Encode(), p.Encode()
	want := slices.Clone(w)
	spoil(w, 1)
	if !slices.Equal(v, want) {
		t.Errorf("another answer is %v behind the change, want %v", v, want)
	}
	spoil(v, 0)
	wantSame(t, encode(), p, q)
}

func TestLaterCallsLeaveWhatWasHandedOut(t *testing.T) {
	p := play(t, busy()...)
	words, text := p.Encode(), p.Take(1, 5)
	wantWords, wantText := slices.Clone(words), strings.Clone(text)
	for _, c := range usesUp() {
		c.on(p)
	}
	if !slices.Equal(words, wantWords) || text != wantText {
		t.Errorf("Encode was %v, Take %q behind later calls", words, text)
	}
}

// A text whose bytes are changed behind the call's back tells whether it was kept.
func TestPutKeepsNothingOfItsText(t *testing.T) {
	for n := 1; n <= 12; n++ {
		b := []byte(strings.Repeat("abcd", 3)[:n])
		p := play(t, makes().is(0))
		if got := p.Put(0, unsafe.String(&b[0], n)); got != min(n, 8) {
			t.Fatalf("Put of %d answers %d", n, got)
		}
		if string(b) != "abcdabcdabcd"[:n] {
			t.Errorf("Put left %q", b)
		}
		clear(b)
		if got := p.Take(0, 8); got != "abcdabcd"[:min(n, 8)] {
			t.Errorf("Take answers %q behind the change", got)
		}
	}
}

// roomy is the words with others behind the list's end.
func roomy(w []uint64) []uint64 {
	l := append(slices.Clone(w), slices.Repeat([]uint64{1}, 100)...)
	return l[:len(w)]
}

func TestDecodeKeepsNothingOfItsWords(t *testing.T) {
	words := roomy(play(t, busy()...).Encode())
	p, e := pipes.Decode(words)
	if p == nil || e != api.OK {
		t.Fatalf("Decode(%v) = %v, %d", words, p, e)
	}
	spoil(words, 3)
	wantSame(t, encode(), p, play(t, busy()...))
}

func TestDecodeLeavesItsWords(t *testing.T) {
	good := play(t, busy()...).Encode()
	for bad := -1; bad < len(good); bad++ {
		words := roomy(good)
		if bad >= 0 {
			words[bad] = 999
		}
		want := slices.Clone(words[:cap(words)])
		p, _ := pipes.Decode(words)
		for _, c := range append(looksAt(), usesUp()...) {
			c.on(p)
		}
		if !slices.Equal(words[:cap(words)], want) {
			t.Errorf("words that were handed in are %v, were %v", words[:cap(words)], want)
		}
	}
}

func TestDecodeMakesThemApart(t *testing.T) {
	words := play(t, busy()...).Encode()
	p, _ := pipes.Decode(words)
	q, _ := pipes.Decode(words)
	for _, c := range usesUp() {
		c.on(p)
	}
	wantSame(t, encode(), q, play(t, busy()...))
}
