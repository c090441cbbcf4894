package bitmap_test

import (
	"math"
	"slices"
	"testing"

	"janus/api"
	"janus/bitmap"
)

// sizes is numbers of bits that there may be, around the ends of words.
func sizes() []int {
	return []int{1, 2, 3, 63, 64, 65, 66, 127, 128, 129, 1000, 1023, 1024}
}

// noSizes is numbers of bits that there may not be.
func noSizes() []int {
	return []int{0, -1, -64, -1024, math.MinInt, math.MinInt + 1, 1025, 1088, 2048, 1 << 32, 1<<32 + 1, 1<<32 + 64, -1 << 32, math.MaxInt - 62, math.MaxInt}
}

// noBits is numbers of which none is one of n bits.
func noBits(n int) []int {
	return []int{-1, -2, -63, -64, -65, -n, n, n + 1, n + 63, n + 64, 1 << 32, 1<<32 + n - 1, -1 << 32, math.MinInt, math.MinInt + n, math.MaxInt}
}

func fresh(t *testing.T, n int) *bitmap.Map {
	t.Helper()
	m := bitmap.New(n)
	if m == nil {
		t.Fatalf("New(%d) = nil", n)
	}
	return m
}

// marked is a bitmap of n bits of which these are used.
func marked(t *testing.T, n int, used ...int) *bitmap.Map {
	t.Helper()
	m := fresh(t, n)
	for _, i := range used {
		wantMark(t, m, i, true, api.OK)
	}
	return m
}

// full is a bitmap of n bits, all used.
func full(t *testing.T, n int) *bitmap.Map {
	t.Helper()
	m := fresh(t, n)
	for i := range n {
		wantMark(t, m, i, true, api.OK)
	}
	return m
}

func wantMark(t *testing.T, m *bitmap.Map, i int, used bool, want api.Errno) {
	t.Helper()
	if e := m.Mark(i, used); e != want {
		t.Fatalf("Mark(%d, %v) of %d bits = %d, want %d", i, used, m.Len(), e, want)
	}
}

func wantTake(t *testing.T, m *bitmap.Map, want int) {
	t.Helper()
	if got := m.Take(); got != want {
		t.Fatalf("Take() of %d bits = %d, want %d", m.Len(), got, want)
	}
}

// wantBits asks m all that shows it without a change: of its n bits these are used.
func wantBits(t *testing.T, m *bitmap.Map, n int, used ...int) {
	t.Helper()
	if got := m.Len(); got != n {
		t.Fatalf("Len() = %d, want %d", got, n)
	}
	words := make([]uint64, (n+63)/64)
	bits := make([]bool, n)
	for _, i := range used {
		words[i/64] |= 1 << (i % 64)
		bits[i] = true
	}
	left := n
	for i, want := range bits {
		if want {
			left--
		}
		if got := m.Used(i); got != want {
			t.Fatalf("Used(%d) of %d bits = %v, want %v", i, n, got, want)
		}
	}
	for _, i := range noBits(n) {
		if m.Used(i) {
			t.Fatalf("Used(%d) of %d bits", i, n)
		}
	}
	if got := m.Left(); got != left {
		t.Fatalf("Left() of %d bits = %d, want %d", n, got, left)
	}
	if got := m.Words(); !slices.Equal(got, words) {
		t.Fatalf("Words() of %d bits = %x, want %x", n, got, words)
	}
}

// rising is the numbers from 0 on, as many as n.
func rising(n int) []int {
	l := make([]int, n)
	for i := range l {
		l[i] = i
	}
	return l
}

// 14.1: New, Len

func TestNewHasNoneUsed(t *testing.T) {
	for _, n := range sizes() {
		wantBits(t, fresh(t, n), n)
	}
}

func TestNewOfEachSize(t *testing.T) {
	for n := -100; n <= 1200; n++ {
		m := bitmap.New(n)
		if may := n >= 1 && n <= 1024; (m != nil) != may {
			t.Errorf("New(%d) = %v", n, m)
		} else if may && (m.Len() != n || m.Left() != n) {
			t.Errorf("of New(%d) Len() = %d, Left() = %d", n, m.Len(), m.Left())
		}
	}
}

func TestNewOfWhatMayNotBe(t *testing.T) {
	for _, n := range noSizes() {
		m := bitmap.New(n)
		if m != nil {
			t.Errorf("New(%d) is not nil", n)
		}
		if m.Len() != 0 {
			t.Errorf("of New(%d) Len() = %d", n, m.Len())
		}
	}
}

func TestLenStays(t *testing.T) {
	m := fresh(t, 65)
	for range 70 {
		m.Take()
		if m.Len() != 65 {
			t.Fatalf("Len() = %d", m.Len())
		}
	}
}

// 14.1: Used, Mark

func TestMarkOfEachBit(t *testing.T) {
	for _, n := range []int{1, 63, 64, 65, 128} {
		for i := range n {
			m := fresh(t, n)
			wantMark(t, m, i, true, api.OK)
			wantBits(t, m, n, i)
			wantMark(t, m, i, false, api.OK)
			wantBits(t, m, n)
		}
	}
}

func TestMarkWithFalseOfEachBit(t *testing.T) {
	for _, n := range []int{1, 63, 64, 65, 128} {
		for i := range n {
			m := full(t, n)
			wantMark(t, m, i, false, api.OK)
			wantBits(t, m, n, slices.Delete(rising(n), i, i+1)...)
			wantMark(t, m, i, true, api.OK)
			wantBits(t, m, n, rising(n)...)
		}
	}
}

func TestMarkAtTheEnds(t *testing.T) {
	for _, n := range sizes() {
		m := fresh(t, n)
		wantMark(t, m, 0, true, api.OK)
		wantBits(t, m, n, 0)
		wantMark(t, m, n-1, true, api.OK)
		wantBits(t, m, n, 0, n-1)
		if n > 1 {
			wantMark(t, m, 0, false, api.OK)
			wantBits(t, m, n, n-1)
		}
	}
}

func TestMarkOfWhatIsSoAlready(t *testing.T) {
	for _, n := range sizes() {
		for _, i := range []int{0, n / 2, n - 1} {
			m := fresh(t, n)
			wantMark(t, m, i, false, api.OK)
			wantBits(t, m, n)
			wantMark(t, m, i, true, api.OK)
			wantMark(t, m, i, true, api.OK)
			wantBits(t, m, n, i)
			wantMark(t, m, i, false, api.OK)
			wantMark(t, m, i, false, api.OK)
			wantBits(t, m, n)
		}
	}
}

func TestRefusedMarkChangesNothing(t *testing.T) {
	for _, n := range sizes() {
		empty, all, last := fresh(t, n), full(t, n), marked(t, n, n-1)
		for _, i := range noBits(n) {
			for _, m := range []*bitmap.Map{empty, all, last} {
				wantMark(t, m, i, true, api.ErrArg)
				wantMark(t, m, i, false, api.ErrArg)
			}
		}
		wantBits(t, empty, n)
		wantBits(t, all, n, rising(n)...)
		wantBits(t, last, n, n-1)
		wantTake(t, all, -1)
		wantTake(t, empty, 0)
	}
}

func TestUsedChangesNothing(t *testing.T) {
	m := marked(t, 66, 1, 64)
	for i := -200; i < 200; i++ {
		if got := m.Used(i); got != (i == 1 || i == 64) {
			t.Errorf("Used(%d) = %v", i, got)
		}
	}
	wantBits(t, m, 66, 1, 64)
	wantTake(t, m, 0)
}

// 14.1: Take, Left; 14.2

func TestTakeUntilThereIsNone(t *testing.T) {
	for _, n := range sizes() {
		m := fresh(t, n)
		for i := range n {
			wantTake(t, m, i)
			if m.Left() != n-1-i {
				t.Fatalf("Left() behind Take of %d = %d", i, m.Left())
			}
		}
		for range 3 {
			wantTake(t, m, -1)
			wantBits(t, m, n, rising(n)...)
		}
	}
}

func TestTakeTellsTheLowest(t *testing.T) {
	for _, n := range sizes() {
		for free := range n {
			m := full(t, n)
			wantMark(t, m, free, false, api.OK)
			if n > 200 && free%37 != 0 {
				wantTake(t, m, free)
				continue
			}
			wantBits(t, m, n, slices.Delete(rising(n), free, free+1)...)
			wantTake(t, m, free)
			wantTake(t, m, -1)
			wantBits(t, m, n, rising(n)...)
		}
	}
}

func TestTakeBehindMarksWithFalse(t *testing.T) {
	for _, free := range [][]int{{2}, {9}, {9, 2}, {2, 9}, {63, 64}, {64, 63}, {0, 65, 40}, {65, 64, 63, 1, 0}} {
		m := fresh(t, 66)
		for i := range 66 {
			wantTake(t, m, i)
		}
		for c, i := range free {
			wantMark(t, m, i, false, api.OK)
			if m.Left() != c+1 {
				t.Errorf("Left() behind %d Marks with false = %d", c+1, m.Left())
			}
		}
		for c, i := range slices.Sorted(slices.Values(free)) {
			wantTake(t, m, i)
			if m.Left() != len(free)-1-c {
				t.Errorf("Left() behind Take of %d = %d", i, m.Left())
			}
		}
		wantTake(t, m, -1)
	}
}

func TestTakeBehindMarksBetween(t *testing.T) {
	m := fresh(t, 130)
	for i := range 5 {
		wantTake(t, m, i)
	}
	wantMark(t, m, 1, false, api.OK)   // lower than the last one taken
	wantMark(t, m, 100, false, api.OK) // higher, and free as it was
	wantTake(t, m, 1)
	wantTake(t, m, 5)
	wantMark(t, m, 3, false, api.OK)
	wantMark(t, m, 0, false, api.OK)
	wantTake(t, m, 0)
	wantTake(t, m, 3)
	wantTake(t, m, 6)
	wantBits(t, m, 130, rising(7)...)
}

func TestTakeGoesAroundWhatIsMarked(t *testing.T) {
	used := []int{0, 1, 5, 62, 63, 64, 66, 127, 128}
	m := marked(t, 130, used...)
	for i := range 130 {
		if !slices.Contains(used, i) {
			wantTake(t, m, i)
		}
	}
	wantTake(t, m, -1)
	if m.Left() != 0 {
		t.Errorf("Left() = %d", m.Left())
	}
}

func TestLeftChangesNothing(t *testing.T) {
	m := marked(t, 65, 0, 64)
	for range 5 {
		if m.Left() != 63 {
			t.Errorf("Left() = %d", m.Left())
		}
	}
	wantBits(t, m, 65, 0, 64)
	wantTake(t, m, 1)
}

func TestMapsAreApart(t *testing.T) {
	one, two := fresh(t, 65), fresh(t, 65)
	wantTake(t, one, 0)
	wantMark(t, one, 64, true, api.OK)
	wantBits(t, two, 65)
	wantTake(t, two, 0)
	wantMark(t, two, 0, false, api.OK)
	wantBits(t, one, 65, 0, 64)
}

// nil

func TestNoMap(t *testing.T) {
	for _, m := range []*bitmap.Map{nil, bitmap.New(0), bitmap.New(1025), new(bitmap.Map)} {
		for _, i := range append(noBits(1), 0, 1, 5, 63, 64, 1023) {
			if m.Used(i) {
				t.Errorf("Used(%d)", i)
			}
			for _, used := range []bool{true, false} {
				if e := m.Mark(i, used); e != api.ErrArg {
					t.Errorf("Mark(%d, %v) = %d", i, used, e)
				}
			}
		}
		if i := m.Take(); i != -1 {
			t.Errorf("Take() = %d", i)
		}
		if m.Len() != 0 || m.Left() != 0 || len(m.Words()) != 0 {
			t.Errorf("Len() = %d, Left() = %d, Words() = %v", m.Len(), m.Left(), m.Words())
		}
	}
}

func TestChaptersExample(t *testing.T) {
	m := bitmap.New(3)
	wantTake(t, m, 0)
	wantTake(t, m, 1)
	wantMark(t, m, 0, false, api.OK)
	wantTake(t, m, 0)
	wantTake(t, m, 2)
	wantTake(t, m, -1)
	if got := m.Words(); !slices.Equal(got, []uint64{7}) {
		t.Errorf("Words() = %v", got)
	}
}
