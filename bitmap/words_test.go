package bitmap_test

import (
	"math"
	"slices"
	"testing"

	"janus/api"
	"janus/bitmap"
)

// wordSizes is the numbers of bits of which words are asked, and how many words they have.
func wordSizes() map[int]int {
	return map[int]int{1: 1, 2: 1, 63: 1, 64: 1, 65: 2, 127: 2, 128: 2, 129: 3, 960: 15, 961: 16, 1023: 16, 1024: 16}
}

func wantOf(t *testing.T, n int, words []uint64) *bitmap.Map {
	t.Helper()
	m, e := bitmap.Of(n, words)
	if m == nil || e != api.OK {
		t.Fatalf("Of(%d, %x) = %v, %d", n, words, m, e)
	}
	return m
}

func wantNone(t *testing.T, n int, words []uint64) {
	t.Helper()
	if m, e := bitmap.Of(n, words); m != nil || e != api.ErrArg {
		t.Errorf("Of(%d, %x) = %v, %d, want nil, ErrArg", n, words, m, e)
	}
}

// wordEnds is the first and the last bit of each word, of n bits.
func wordEnds(n int) []int {
	var l []int
	for i := range n {
		if i%64 == 0 || i%64 == 63 || i == n-1 {
			l = append(l, i)
		}
	}
	return l
}

// wantBack asks for the same bitmap from its words.
func wantBack(t *testing.T, m *bitmap.Map, used ...int) {
	t.Helper()
	n, words := m.Len(), m.Words()
	wantBits(t, m, n, used...)
	back := wantOf(t, n, words)
	wantBits(t, back, n, used...)
	for range n + 1 { // they go on alike, too
		want := m.Take()
		wantTake(t, back, want)
	}
}

func TestWordsAndBackOfNone(t *testing.T) {
	for n, c := range wordSizes() {
		m := fresh(t, n)
		if got := m.Words(); !slices.Equal(got, make([]uint64, c)) {
			t.Errorf("Words() of %d bits = %x", n, got)
		}
		wantBack(t, m)
	}
}

func TestWordsAndBackOfAll(t *testing.T) {
	for n, c := range wordSizes() {
		m := full(t, n)
		want := slices.Repeat([]uint64{math.MaxUint64}, c)
		for i := n; i < 64*c; i++ {
			want[c-1] ^= 1 << (i - 64*(c-1))
		}
		if got := m.Words(); !slices.Equal(got, want) {
			t.Errorf("Words() of %d bits = %x, want %x", n, got, want)
		}
		wantBack(t, m, rising(n)...)
	}
}

func TestWordsAndBackOfWordsEnds(t *testing.T) {
	for n := range wordSizes() {
		ends := wordEnds(n)
		wantBack(t, marked(t, n, ends...), ends...)
		for _, i := range ends {
			wantBack(t, marked(t, n, i), i)
		}
	}
}

func TestWordsByTheNumbers(t *testing.T) {
	for _, c := range []struct {
		n, bit int
		words  []uint64
	}{
		{1, 0, []uint64{1}},
		{63, 62, []uint64{1 << 62}},
		{64, 63, []uint64{1 << 63}},
		{65, 63, []uint64{1 << 63, 0}},
		{65, 64, []uint64{0, 1}},
		{128, 64, []uint64{0, 1}},
		{128, 127, []uint64{0, 1 << 63}},
		{129, 128, []uint64{0, 0, 1}},
	} {
		if got := marked(t, c.n, c.bit).Words(); !slices.Equal(got, c.words) {
			t.Errorf("Words() of bit %d of %d = %x, want %x", c.bit, c.n, got, c.words)
		}
		wantBits(t, wantOf(t, c.n, c.words), c.n, c.bit)
	}
}

func TestOfEachSize(t *testing.T) {
	for n := 1; n <= 1024; n++ {
		m := wantOf(t, n, full(t, n).Words())
		if m.Len() != n || m.Left() != 0 || m.Take() != -1 {
			t.Errorf("Of(%d, all used): Len() = %d, Left() = %d", n, m.Len(), m.Left())
		}
	}
}

func TestOfWithOtherThanItsWords(t *testing.T) {
	for n, c := range wordSizes() {
		for bad := range 20 {
			if bad != c {
				wantNone(t, n, make([]uint64, bad))
				wantNone(t, n, slices.Repeat([]uint64{1}, bad))
			}
		}
		wantNone(t, n, nil)
		wantNone(t, n, []uint64{})
		wantNone(t, n, full(t, n).Words()[:c-1])
		wantNone(t, n, append(full(t, n).Words(), 0))
		wantNone(t, n, append([]uint64{0}, fresh(t, n).Words()...))
		wantNone(t, n, make([]uint64, 100, 200)[c:c]) // words behind its end are none of a list's
	}
}

func TestOfWithABitPastTheEnd(t *testing.T) {
	for n, c := range wordSizes() {
		for i := n; i < 64*c; i++ {
			for _, words := range [][]uint64{fresh(t, n).Words(), full(t, n).Words()} {
				words[c-1] |= 1 << (i % 64)
				wantNone(t, n, words)
			}
		}
		if n < 64*c {
			wantNone(t, n, slices.Repeat([]uint64{math.MaxUint64}, c))
		} else {
			wantBits(t, wantOf(t, n, slices.Repeat([]uint64{math.MaxUint64}, c)), n, rising(n)...)
		}
	}
}

func TestOfWhatMayNotBe(t *testing.T) {
	for _, n := range noSizes() {
		for _, c := range []int{0, 1, 2, 16, 17, 18, 32} {
			wantNone(t, n, make([]uint64, c))
			wantNone(t, n, slices.Repeat([]uint64{math.MaxUint64}, c))
		}
		wantNone(t, n, nil)
	}
}

// R4

// spoil turns all bits of a list, and of what lies behind its end as far as it reaches.
func spoil(l []uint64) {
	l = l[:cap(l)]
	for i := range l {
		l[i] = ^l[i]
	}
}

// roomy is these words in a list with others behind its end.
func roomy(words []uint64) []uint64 {
	l := append(slices.Clone(words), 5, 6, 7, 8)
	return l[:len(words)]
}

func TestWordsHandedInAreNotKept(t *testing.T) {
	for n := range wordSizes() {
		words := roomy(marked(t, n, n-1).Words())
		one, two := wantOf(t, n, words), wantOf(t, n, words)
		spoil(words)
		wantBits(t, one, n, n-1)
		wantBits(t, two, n, n-1)
		wantMark(t, one, n-1, false, api.OK)
		wantBits(t, two, n, n-1)
	}
}

func TestWordsHandedInAreNotChanged(t *testing.T) {
	for n := range wordSizes() {
		words := roomy(marked(t, n, n-1).Words())
		want := slices.Clone(words[:cap(words)])
		m := wantOf(t, n, words)
		for m.Take() >= 0 {
		}
		wantMark(t, m, 0, false, api.OK)
		spoil(m.Words())
		bitmap.Of(n+1, words)
		bitmap.Of(n-1, words)
		bitmap.Of(0, words)
		if !slices.Equal(words[:cap(words)], want) {
			t.Errorf("words that were handed in are %x, were %x", words[:cap(words)], want)
		}
	}
}

func TestWordsHandedOutAreNewMemory(t *testing.T) {
	for n := range wordSizes() {
		m := marked(t, n, 0)
		want := m.Words()
		one, two := m.Words(), m.Words()
		spoil(one)
		if !slices.Equal(two, want) {
			t.Errorf("another answer is %x behind the change, want %x", two, want)
		}
		wantBits(t, m, n, 0)
		wantMark(t, m, n-1, true, api.OK)
		wantMark(t, m, 0, false, api.OK)
		m.Take()
		if !slices.Equal(two, want) {
			t.Errorf("an answer is %x behind later calls, was %x", two, want)
		}
	}
}

func TestWordsHandedOutAndInAreApart(t *testing.T) {
	for n := range wordSizes() {
		m := marked(t, n, n-1)
		words := m.Words()
		back := wantOf(t, n, words)
		spoil(words)
		wantMark(t, m, n-1, false, api.OK)
		wantBits(t, back, n, n-1)
		wantMark(t, back, 0, true, api.OK)
		wantBits(t, m, n)
	}
}
