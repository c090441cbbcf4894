package bitmap_test

import (
	"slices"
	"testing"

	"janus/api"
	"janus/bitmap"
)

// model is the chapter once more: each bit a bool of its own.
type model []bool

func (m model) take() int {
	i := slices.Index(m, false)
	if i >= 0 {
		m[i] = true
	}
	return i
}

func (m model) mark(i int, used bool) api.Errno {
	if i < 0 || i >= len(m) {
		return api.ErrArg
	}
	m[i] = used
	return api.OK
}

func (m model) used() []int {
	var l []int
	for i, used := range m {
		if used {
			l = append(l, i)
		}
	}
	return l
}

// dice throws the same numbers in every run.
type dice uint64

func (d *dice) below(n int) int {
	*d = *d*6364136223846793005 + 1442695040888963407
	return int(uint64(*d>>33) % uint64(n))
}

func pickOf[T any](d *dice, l []T) T { return l[d.below(len(l))] }

func (d *dice) bit(n int) int {
	if d.below(10) == 0 {
		return pickOf(d, noBits(n))
	}
	return d.below(n)
}

// step makes one call on both, and answers the bitmap to go on with.
func (d *dice) step(t *testing.T, m *bitmap.Map, want model) *bitmap.Map {
	t.Helper()
	switch n := len(want); d.below(5) {
	case 0, 1:
		free := m.Left()
		got := m.Take()
		if got >= 0 && want[got] {
			t.Fatalf("Take() of %d bits tells %d, which is used", n, got)
		}
		if i := want.take(); got != i || (got < 0) != (free == 0) {
			t.Fatalf("Take() of %d bits, %d free, = %d, want %d", n, free, got, i)
		}
	case 2:
		i := d.bit(n)
		wantMark(t, m, i, true, want.mark(i, true))
	case 3:
		i := d.bit(n)
		wantMark(t, m, i, false, want.mark(i, false))
	case 4:
		return wantOf(t, n, m.Words())
	}
	return m
}

func TestAgainstTheModel(t *testing.T) {
	for seed := range 60 {
		d := dice(seed)
		n := pickOf(&d, []int{1, 2, 3, 5, 63, 64, 65, 66, 128, 200, 1024})
		m, want := fresh(t, n), make(model, n)
		for range 300 {
			m = d.step(t, m, want)
			wantBits(t, m, n, want.used()...)
		}
	}
}

// All bitmaps of few bits, with each call on each.
func TestAllSmallMaps(t *testing.T) {
	for n := 1; n <= 6; n++ {
		for bits := range uint64(1) << n {
			want := make(model, n)
			for i := range n {
				want[i] = bits>>i&1 == 1
			}
			m := wantOf(t, n, []uint64{bits})
			wantBits(t, m, n, want.used()...)
			for i := -1; i <= n; i++ {
				for _, used := range []bool{true, false} {
					m, want := wantOf(t, n, []uint64{bits}), slices.Clone(want)
					wantMark(t, m, i, used, want.mark(i, used))
					wantBits(t, m, n, want.used()...)
				}
			}
			for range n + 1 {
				wantTake(t, m, want.take())
				wantBits(t, m, n, want.used()...)
			}
		}
	}
}

// The same calls answer the same, whatever is done to others.
func TestSameCallsAnswerTheSame(t *testing.T) {
	for seed := range 10 {
		d := dice(seed)
		one, two := fresh(t, 70), fresh(t, 70)
		for range 300 {
			if i := d.bit(70); d.below(3) > 0 {
				wantMark(t, two, i, true, one.Mark(i, true))
			} else if d.below(2) == 0 {
				wantMark(t, two, i, false, one.Mark(i, false))
			} else {
				wantTake(t, two, one.Take())
			}
			if !slices.Equal(one.Words(), two.Words()) {
				t.Fatalf("seed %d: Words() are %x and %x", seed, one.Words(), two.Words())
			}
		}
	}
}
