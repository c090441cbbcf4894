package mem

import (
	"math"
	"slices"
	"testing"

	"janus/api"
)

// mark is a value that no other word of a filled memory has.
func mark(frame, word int) uint64 {
	return 1<<63 | uint64(frame*api.PageWords+word+1)
}

func filled(t *testing.T, frames int) *Mem {
	t.Helper()
	m := New(frames)
	if m == nil {
		t.Fatalf("New(%d) = nil", frames)
	}
	for f := range frames {
		for w := range api.PageWords {
			if e := m.Write(f, w, mark(f, w)); e != api.OK {
				t.Fatalf("Write(%d, %d) = %d", f, w, e)
			}
		}
	}
	return m
}

// image is all that a memory's calls show of its words.
func image(t *testing.T, m *Mem) [][]uint64 {
	t.Helper()
	var all [][]uint64
	for f := range m.Frames() {
		page := m.Page(f)
		if len(page) != api.PageWords {
			t.Fatalf("Page(%d) has %d words", f, len(page))
		}
		for w, v := range page {
			got, e := m.Read(f, w)
			if got != v || e != api.OK {
				t.Fatalf("Read(%d, %d) = %d, %d; its page has %d", f, w, got, e, v)
			}
		}
		all = append(all, page)
	}
	return all
}

func wantImage(t *testing.T, m *Mem, want [][]uint64, after string) {
	t.Helper()
	if got := image(t, m); !slices.EqualFunc(got, want, slices.Equal) {
		t.Errorf("after %s: the memory is %v, want %v", after, got, want)
	}
}

func badFrames(frames int) []int {
	return []int{math.MinInt, -frames, -1, frames, frames + 1, api.MaxFrames, math.MaxInt}
}

func badWords() []int {
	return []int{math.MinInt, -api.PageWords, -1, api.PageWords, api.PageWords + 1, math.MaxInt}
}

func TestNewAtItsEdges(t *testing.T) {
	for _, n := range []int{1, 2, 1023, 1024} {
		m := New(n)
		if m == nil || m.Frames() != n {
			t.Errorf("New(%d): %d frames", n, m.Frames())
		}
	}
	for _, n := range []int{math.MinInt, -1024, -1, 0, 1025, math.MaxInt} {
		if New(n) != nil {
			t.Errorf("New(%d) is not nil", n)
		}
	}
}

func TestNewIsAllZero(t *testing.T) {
	for _, n := range []int{1, 3, api.MaxFrames} {
		for f, page := range image(t, New(n)) {
			if !slices.Equal(page, make([]uint64, 32)) {
				t.Errorf("New(%d): frame %d is %v", n, f, page)
			}
		}
	}
}

func TestWriteAtBothEnds(t *testing.T) {
	for _, n := range []int{1, 2, api.MaxFrames} {
		m := New(n)
		for _, f := range []int{0, n - 1} {
			for _, w := range []int{0, 31} {
				for _, v := range []uint64{math.MaxUint64, 7, 0} {
					e := m.Write(f, w, v)
					got, g := m.Read(f, w)
					if e != api.OK || g != api.OK || got != v {
						t.Errorf("%d frames: Write(%d, %d, %d) = %d; Read = %d, %d", n, f, w, v, e, got, g)
					}
				}
			}
		}
	}
}

func TestWriteChangesNoOtherWord(t *testing.T) {
	const frames = 3
	m := filled(t, frames)
	want := image(t, m)
	for f := range frames {
		for w := range api.PageWords {
			want[f][w] = ^mark(f, w)
			if e := m.Write(f, w, want[f][w]); e != api.OK {
				t.Fatalf("Write(%d, %d) = %d", f, w, e)
			}
			wantImage(t, m, want, "Write")
		}
	}
}

func TestReadOfNothing(t *testing.T) {
	m := filled(t, 2)
	for _, f := range badFrames(2) {
		for _, w := range append(badWords(), 0, 31) {
			if v, e := m.Read(f, w); v != 0 || e != api.ErrArg {
				t.Errorf("Read(%d, %d) = %d, %d", f, w, v, e)
			}
		}
	}
	for _, f := range []int{0, 1} {
		for _, w := range badWords() {
			if v, e := m.Read(f, w); v != 0 || e != api.ErrArg {
				t.Errorf("Read(%d, %d) = %d, %d", f, w, v, e)
			}
		}
	}
}

func TestRefusedWriteChangesNothing(t *testing.T) {
	m := filled(t, 2)
	want := image(t, m)
	for _, f := range badFrames(2) {
		for _, w := range append(badWords(), 0, 31) {
			if e := m.Write(f, w, 5); e != api.ErrArg {
				t.Errorf("Write(%d, %d) = %d", f, w, e)
			}
		}
	}
	for _, f := range []int{0, 1} {
		for _, w := range badWords() {
			if e := m.Write(f, w, 5); e != api.ErrArg {
				t.Errorf("Write(%d, %d) = %d", f, w, e)
			}
		}
	}
	wantImage(t, m, want, "refused writes")
}

func TestCopyTakesAllWordsOnce(t *testing.T) {
	const frames = 3
	for to := range frames {
		for from := range frames {
			m := filled(t, frames)
			want := image(t, m)
			copy(want[to], want[from])
			if e := m.Copy(to, from); e != api.OK {
				t.Errorf("Copy(%d, %d) = %d", to, from, e)
			}
			wantImage(t, m, want, "Copy")
		}
	}
}

func TestCopiedFramesShareNothing(t *testing.T) {
	m := filled(t, 2)
	m.Copy(0, 1)
	want := image(t, m)
	want[1][4], want[0][5] = 8, 9
	m.Write(1, 4, 8)
	m.Write(0, 5, 9)
	wantImage(t, m, want, "Copy and two writes")
}

func TestRefusedCopyChangesNothing(t *testing.T) {
	m := filled(t, 2)
	want := image(t, m)
	for _, bad := range badFrames(2) {
		for _, good := range []int{0, 1} {
			if e := m.Copy(bad, good); e != api.ErrArg {
				t.Errorf("Copy(%d, %d) = %d", bad, good, e)
			}
			if e := m.Copy(good, bad); e != api.ErrArg {
				t.Errorf("Copy(%d, %d) = %d", good, bad, e)
			}
		}
		if e := m.Copy(bad, bad); e != api.ErrArg {
			t.Errorf("Copy(%d, %d) = %d", bad, bad, e)
		}
	}
	wantImage(t, m, want, "refused copies")
}

func TestZeroOfOneFrame(t *testing.T) {
	const frames = 3
	for f := range frames {
		m := filled(t, frames)
		want := image(t, m)
		want[f] = make([]uint64, api.PageWords)
		if e := m.Zero(f); e != api.OK {
			t.Errorf("Zero(%d) = %d", f, e)
		}
		wantImage(t, m, want, "Zero")
	}
}

func TestRefusedZeroChangesNothing(t *testing.T) {
	m := filled(t, 2)
	want := image(t, m)
	for _, f := range badFrames(2) {
		if e := m.Zero(f); e != api.ErrArg {
			t.Errorf("Zero(%d) = %d", f, e)
		}
	}
	wantImage(t, m, want, "refused zeros")
}

func TestPageOfNothing(t *testing.T) {
	m := filled(t, 2)
	for _, f := range badFrames(2) {
		if page := m.Page(f); len(page) != 0 {
			t.Errorf("Page(%d) = %v", f, page)
		}
	}
}

func TestPageIsNotTheMemorys(t *testing.T) {
	m := filled(t, 3)
	want := image(t, m)
	for f := range 3 {
		page := m.Page(f)
		page = append(page, 1, 2, 3) // room behind the end would be the next frame's
		for w := range page {
			page[w] = 99
		}
		page = m.Page(f)
		page = page[:cap(page)]
		clear(page)
	}
	wantImage(t, m, want, "writes to pages")
}

func TestPageStaysAsItWas(t *testing.T) {
	m := filled(t, 2)
	first, second := m.Page(1), m.Page(1)
	was := slices.Clone(first)
	m.Write(1, 0, 5)
	m.Copy(1, 0)
	m.Zero(1)
	if !slices.Equal(first, was) {
		t.Errorf("the page became %v", first)
	}
	clear(first)
	if !slices.Equal(second, was) {
		t.Errorf("the other page became %v", second)
	}
}

func TestMemoriesAreApart(t *testing.T) {
	m, other := New(2), filled(t, 2)
	want := image(t, m)
	other.Zero(0)
	other.Copy(1, 0)
	other.Write(1, 1, 3)
	wantImage(t, m, want, "calls on another memory")
}

func TestNoMemory(t *testing.T) {
	for _, m := range []*Mem{nil, New(0), new(Mem)} {
		if m.Frames() != 0 {
			t.Errorf("Frames() = %d", m.Frames())
		}
		for _, f := range []int{math.MinInt, -1, 0, 1, math.MaxInt} {
			v, e := m.Read(f, 0)
			if v != 0 || e != api.ErrArg {
				t.Errorf("Read(%d, 0) = %d, %d", f, v, e)
			}
			if m.Write(f, 0, 1) != api.ErrArg || m.Copy(f, f) != api.ErrArg || m.Zero(f) != api.ErrArg {
				t.Errorf("frame %d: Write, Copy or Zero is not refused", f)
			}
			if len(m.Page(f)) != 0 {
				t.Errorf("Page(%d) = %v", f, m.Page(f))
			}
		}
	}
}

// model is what the chapter says, over a map of the words that are not 0.
type model map[[2]int]uint64

func (d model) set(frame, word int, v uint64) {
	d[[2]int{frame, word}] = v
}

func (d model) step(m *Mem, op, a, b, word int, v uint64) (api.Errno, api.Errno) {
	in := func(f int) bool { return f >= 0 && f < m.Frames() }
	inWord := word >= 0 && word < 32
	switch op {
	case 0:
		if !in(a) || !inWord {
			return m.Write(a, word, v), api.ErrArg
		}
		d.set(a, word, v)
		return m.Write(a, word, v), api.OK
	case 1:
		if !in(a) || !in(b) {
			return m.Copy(a, b), api.ErrArg
		}
		for w := range 32 {
			d.set(a, w, d[[2]int{b, w}])
		}
		return m.Copy(a, b), api.OK
	}
	if !in(a) {
		return m.Zero(a), api.ErrArg
	}
	for w := range 32 {
		d.set(a, w, 0)
	}
	return m.Zero(a), api.OK
}

func TestLongRunAgainstModel(t *testing.T) {
	const frames = 4
	m, d := New(frames), model{}
	state := uint64(1)
	next := func(n int) int {
		state = state*6364136223846793005 + 1442695040888963407
		return int(state>>33) % n
	}
	for i := range 5000 {
		op := max(0, next(12)-9) // writes most often
		a, b, word := next(frames+2)-1, next(frames+2)-1, next(34)-1
		got, want := d.step(m, op, a, b, word, state)
		if got != want {
			t.Fatalf("step %d: operation %d at %d, %d, %d: %d, want %d", i, op, a, b, word, got, want)
		}
		for f, page := range image(t, m) {
			for w, v := range page {
				if v != d[[2]int{f, w}] {
					t.Fatalf("step %d: frame %d, word %d: %d, want %d", i, f, w, v, d[[2]int{f, w}])
				}
			}
		}
	}
}

func TestChaptersExample(t *testing.T) {
	m := New(2)
	if m.Write(1, 31, 7) != api.OK || m.Copy(0, 1) != api.OK {
		t.Fatal("Write or Copy is refused")
	}
	if v, e := m.Read(0, 31); v != 7 || e != api.OK {
		t.Errorf("Read(0, 31) = %d, %d", v, e)
	}
	if v, e := m.Read(2, 0); v != 0 || e != api.ErrArg {
		t.Errorf("Read(2, 0) = %d, %d", v, e)
	}
}
