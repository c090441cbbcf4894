package exodisk_test

import (
	"slices"
	"testing"

	"janus/api"
)

// spoil writes over a list, and behind its end as far as it reaches.
func spoil[T int | uint64](l []T) {
	l = l[:cap(l)]
	for i := range l {
		l[i] = 77
	}
}

// roomy is a block's words, with others behind the list's end.
func roomy(v uint64) []uint64 {
	return slices.Concat(words(v), words(v+1000))[:api.BlockWords]
}

// ways is the two ways to put a block of an extent that environment 1 has in slot 1, and that begins with block 0.
func ways() []func(block int, l []uint64) call {
	return []func(int, []uint64) call{
		func(block int, l []uint64) call { return put(1, 1, block, l) },
		func(block int, l []uint64) call { return viewPut(1, 1, block, l) },
	}
}

func wantWords(t *testing.T, what string, got, want []uint64) {
	t.Helper()
	if !slices.Equal(got, want) {
		t.Errorf("%s: %v, want %v", what, got, want)
	}
}

func TestWordsHandedInAreNotKept(t *testing.T) {
	for _, putBy := range ways() {
		m, l := play(t, 3, alloc(1, 0, 3).is(1)), roomy(5)
		wantAnswer(t, m, putBy(0, l).ok())
		wantAnswer(t, m, putBy(2, l).ok())
		spoil(l)
		for _, block := range []int{0, 2} {
			wantAnswer(t, m, get(1, 1, block).has(words(5)))
			wantAnswer(t, m, viewGet(1, 1, block).has(words(5)))
		}
		wantAnswer(t, m, sync().is(2))
		spoil(l)
		wantAnswer(t, m, disk(0).has(words(5)))
		wantAnswer(t, m, disk(2).has(words(5)))
		wantAnswer(t, m, get(1, 1, 0).has(words(5)))
	}
}

// One list is put by turns with other words in it, as one who has a single one would.
func TestOneListPutOverAndOver(t *testing.T) {
	m, l := play(t, 3, alloc(1, 0, 3).is(1)), roomy(0)
	for block := range 3 {
		copy(l, words(uint64(block)))
		m.Put(1, 1, block, l)
	}
	for block := range 3 {
		wantAnswer(t, m, get(1, 1, block).has(words(uint64(block))))
	}
}

func TestWordsHandedInAreNotChanged(t *testing.T) {
	for n := range 2 * api.BlockWords {
		for _, putBy := range ways() {
			m, l := play(t, 3, alloc(1, 0, 3).is(1)), roomy(5)[:n]
			want := slices.Clone(l[:cap(l)])
			putBy(0, l).on(m)
			putBy(0, l).on(m)
			putBy(9, l).on(m)
			put(2, 1, 0, l).on(m)
			got, _ := m.Get(1, 1, 0)
			spoil(got)
			sync().on(m)
			spoil(m.Disk(0))
			putBy(0, words(9)).on(m)
			gone(1).on(m)
			wantWords(t, "what was handed in", l[:cap(l)], want)
		}
	}
}

// outs is all that hands a block's words out.
func outs(m *machine) []([]uint64) {
	a, _ := m.Get(1, 1, 0)
	b, _ := m.Get(1, 1, 0)
	c, _ := m.View(1, 1).Get(0)
	d, _ := m.View(1, 1).Get(0)
	return [][]uint64{a, b, c, d, m.Disk(0), m.Disk(0)}
}

// R4: what is handed out shares no memory with what is kept or with another answer, whether it was read from the disk or put, before Sync or behind it.
func TestWordsHandedOutAreNewMemory(t *testing.T) {
	for _, ahead := range [][]step{
		{},
		{put(1, 1, 0, words(5)).ok(), sync().is(1)},
		{put(1, 1, 0, words(5)).ok(), sync().is(1), get(1, 1, 0).has(words(5))},
		{get(1, 1, 0).has(zeros()), put(1, 1, 0, words(5)).ok(), sync().is(1)},
	} {
		steps := append([]step{alloc(1, 0, 2).is(1)}, ahead...)
		want := zeros()
		if len(ahead) > 0 {
			want = words(5)
		}
		for i := range outs(play(t, 2, steps...)) {
			m := play(t, 2, steps...)
			first := outs(m)
			spoil(first[i])
			for j, l := range first {
				if j != i {
					wantWords(t, "another answer", l, want)
				}
			}
			for _, l := range outs(m) {
				wantWords(t, "what is kept", l, want)
			}
			wantAnswer(t, m, sync().is(0))
			wantAnswer(t, m, get(1, 1, 1).has(zeros()))
		}
	}
}

// What is changed and was spoilt where it was handed out is written as it was put.
func TestSyncBehindWordsThatWereSpoilt(t *testing.T) {
	m := play(t, 2, alloc(1, 0, 2).is(1), put(1, 1, 0, words(5)).ok())
	for _, l := range outs(m) {
		spoil(l)
	}
	wantAnswer(t, m, sync().is(1))
	wantAnswer(t, m, disk(0).has(words(5)))
	wantAnswer(t, m, get(1, 1, 0).has(words(5)))
	l, _ := m.Get(1, 1, 0)
	spoil(l)
	wantAnswer(t, m, disk(0).has(words(5)))
}

func TestLaterCallsLeaveWhatWasHandedOut(t *testing.T) {
	m := play(t, 3, alloc(1, 0, 3).is(1), put(1, 1, 0, words(5)).ok(), sync().is(1))
	l := outs(m)
	there := m.Cached()
	for _, s := range []step{put(1, 1, 0, words(6)).ok(), sync().is(1), viewPut(1, 1, 0, words(7)).ok(), get(1, 1, 2).has(zeros()), sync().is(1), gone(1).ok()} {
		wantAnswer(t, m, s)
	}
	for _, x := range l {
		wantWords(t, "an earlier answer", x, words(5))
	}
	if !slices.Equal(there, []int{0}) {
		t.Errorf("Cached was %v behind later calls", there)
	}
}

func TestCachedIsNewMemory(t *testing.T) {
	m := play(t, 4, alloc(1, 0, 4).is(1), get(1, 1, 3).has(zeros()), put(1, 1, 1, words(1)).ok())
	one, two := m.Cached(), m.Cached()
	spoil(one)
	if !slices.Equal(two, []int{1, 3}) {
		t.Errorf("another answer is %v", two)
	}
	spoil(two)
	wantAnswer(t, m, cached().are(1, 3))
	wantAnswer(t, m, sync().is(1))
	wantAnswer(t, m, disk(1).has(words(1)))
}
