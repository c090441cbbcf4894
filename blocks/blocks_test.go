package blocks

import (
	"math"
	"slices"
	"testing"

	"janus/api"
)

// A disk is what the layers above call a store.
var _ api.Store = (*Disk)(nil)

// marks are words that no other block of a filled disk has.
func marks(block int) []uint64 {
	words := make([]uint64, 32)
	for w := range words {
		words[w] = 1<<63 | uint64(block*32+w+1)
	}
	return words
}

func filled(t *testing.T, n int) *Disk {
	t.Helper()
	d := New(n)
	if d == nil {
		t.Fatalf("New(%d) = nil", n)
	}
	for b := range n {
		put(t, d, b, marks(b))
	}
	return d
}

func put(t *testing.T, d *Disk, block int, words []uint64) {
	t.Helper()
	if e := d.Put(block, words); e != api.OK {
		t.Fatalf("Put(%d, %v) = %d", block, words, e)
	}
}

func get(t *testing.T, d *Disk, block int) []uint64 {
	t.Helper()
	words, e := d.Get(block)
	if e != api.OK || len(words) != 32 {
		t.Fatalf("Get(%d) = %v, %d", block, words, e)
	}
	return words
}

// image is all that a disk's calls show of its words.
func image(t *testing.T, d *Disk) [][]uint64 {
	t.Helper()
	var all [][]uint64
	for b := range d.Len() {
		all = append(all, get(t, d, b))
	}
	return all
}

func wantImage(t *testing.T, d *Disk, want [][]uint64, after string) {
	t.Helper()
	if got := image(t, d); !slices.EqualFunc(got, want, slices.Equal) {
		t.Errorf("after %s: the disk is %v, want %v", after, got, want)
	}
}

func wantMoves(t *testing.T, d *Disk, gets, puts int, after string) {
	t.Helper()
	if g, p := d.Moves(); g != gets || p != puts {
		t.Errorf("after %s: Moves() = %d, %d, want %d, %d", after, g, p, gets, puts)
	}
}

// badBlocks are the ones around a disk of n blocks that it does not have.
func badBlocks(n int) []int {
	return []int{math.MinInt, -n - 1, -n, -1, n, n + 1, api.MaxBlocks, api.MaxBlocks + 1, math.MaxInt}
}

// badWords are lists that are no block's, whatever capacity stands behind them.
func badWords() [][]uint64 {
	long := make([]uint64, 2048)
	for w := range long {
		long[w] = 77
	}
	return [][]uint64{nil, {}, long[:0], long[:1], long[:31], long[:31:31], long[:33], long[:33:33], long[:64], long}
}

func TestNewAtItsEdges(t *testing.T) {
	for _, n := range []int{1, 2, 1023, 1024} {
		d := New(n)
		if d == nil || d.Len() != n {
			t.Errorf("New(%d): %d blocks", n, d.Len())
		}
	}
	for _, n := range []int{math.MinInt, -1024, -1, 0, 1025, 2048, math.MaxInt} {
		if New(n) != nil {
			t.Errorf("New(%d) is not nil", n)
		}
	}
}

func TestNewIsAllZero(t *testing.T) {
	for _, n := range []int{1, 3, 1024} {
		d := New(n)
		wantMoves(t, d, 0, 0, "New")
		for b, words := range image(t, d) {
			if !slices.Equal(words, make([]uint64, 32)) {
				t.Errorf("New(%d): block %d is %v", n, b, words)
			}
		}
	}
}

func TestLenStays(t *testing.T) {
	d := New(3)
	put(t, d, 2, marks(2))
	get(t, d, 0)
	d.Put(3, marks(3))
	d.Get(3)
	if d.Len() != 3 {
		t.Errorf("Len() = %d", d.Len())
	}
}

func TestPutIsGotAtBothEnds(t *testing.T) {
	for _, n := range []int{1, 2, 1024} {
		d := New(n)
		for _, b := range []int{0, n - 1} {
			for _, v := range []uint64{math.MaxUint64, 1 << 63, 7, 0} {
				words := slices.Repeat([]uint64{v}, 32)
				put(t, d, b, words)
				if got := get(t, d, b); !slices.Equal(got, words) {
					t.Errorf("%d blocks: block %d is %v, want %v", n, b, got, words)
				}
			}
		}
	}
}

func TestPutChangesNoOtherBlock(t *testing.T) {
	const n = 4
	for b := range n {
		d := filled(t, n)
		want := image(t, d)
		want[b] = marks(100 + b)
		put(t, d, b, want[b])
		wantImage(t, d, want, "Put")
	}
}

func TestPutOfEachOfAllBlocks(t *testing.T) {
	d := filled(t, api.MaxBlocks)
	for b, words := range image(t, d) {
		if !slices.Equal(words, marks(b)) {
			t.Fatalf("block %d is %v", b, words)
		}
	}
}

func TestGetChangesNoBlock(t *testing.T) {
	d := filled(t, 2)
	want := image(t, d)
	for range 3 {
		get(t, d, 1)
	}
	wantImage(t, d, want, "Get")
}

func TestGetOfNoBlock(t *testing.T) {
	for _, n := range []int{1, 2, 1024} {
		d := filled(t, n)
		want := image(t, d)
		for _, b := range badBlocks(n) {
			if words, e := d.Get(b); len(words) != 0 || e != api.ErrArg {
				t.Errorf("%d blocks: Get(%d) = %v, %d", n, b, words, e)
			}
		}
		wantMoves(t, d, n, n, "refused Gets")
		wantImage(t, d, want, "refused Gets")
	}
}

func TestPutToNoBlock(t *testing.T) {
	for _, n := range []int{1, 2, 1024} {
		d := filled(t, n)
		want := image(t, d)
		for _, b := range badBlocks(n) {
			for _, words := range append(badWords(), marks(50)) {
				if e := d.Put(b, words); e != api.ErrArg {
					t.Errorf("%d blocks: Put(%d, %d words) = %d", n, b, len(words), e)
				}
			}
		}
		wantMoves(t, d, n, n, "refused Puts")
		wantImage(t, d, want, "refused Puts")
	}
}

func TestPutOfOtherThanThirtyTwoWords(t *testing.T) {
	d := filled(t, 3)
	want := image(t, d)
	for b := range 3 {
		for _, words := range badWords() {
			if e := d.Put(b, words); e != api.ErrArg {
				t.Errorf("Put(%d, %d words) = %d", b, len(words), e)
			}
		}
	}
	wantMoves(t, d, 3, 3, "refused Puts")
	wantImage(t, d, want, "refused Puts")
}

func TestPutTakesNoMoreThanItsList(t *testing.T) {
	d := filled(t, 3)
	want := image(t, d)
	long := slices.Repeat([]uint64{77}, 200)
	want[1] = slices.Clone(long[:32])
	put(t, d, 1, long[:32])
	wantImage(t, d, want, "Put of a list with room behind it")
	if !slices.Equal(long, slices.Repeat([]uint64{77}, 200)) {
		t.Errorf("the list that was put became %v", long)
	}
}

func TestWhatWasPutIsNotKept(t *testing.T) {
	d := filled(t, 3)
	want := image(t, d)
	handed := marks(9)
	put(t, d, 0, handed)
	put(t, d, 2, handed)
	want[0], want[2] = marks(9), marks(9)
	if !slices.Equal(handed, marks(9)) {
		t.Errorf("what was put became %v", handed)
	}
	clear(handed)
	wantImage(t, d, want, "a write to what was put")
	put(t, d, 0, marks(10))
	want[0] = marks(10)
	wantImage(t, d, want, "Put to one of two blocks that had the same")
	if !slices.Equal(handed, make([]uint64, 32)) {
		t.Errorf("what was put became %v", handed)
	}
}

func TestWhatWasGotIsNotTheDisks(t *testing.T) {
	d := filled(t, 3)
	want := image(t, d)
	for b := range 3 {
		got := get(t, d, b)
		got = append(got, 1, 2, 3) // room behind the end would be the next block's
		for w := range got {
			got[w] = 99
		}
		got = get(t, d, b)
		clear(got[:cap(got)])
	}
	wantImage(t, d, want, "writes to what was got")
}

func TestWhatWasGotEndsWithTheBlock(t *testing.T) {
	d := filled(t, 2)
	for b := range 2 {
		if got := get(t, d, b); cap(got) != 32 {
			t.Errorf("Get(%d) has room for %d words", b, cap(got))
		}
	}
}

func TestWhatWasGotStaysAsItWas(t *testing.T) {
	d := filled(t, 2)
	first, second := get(t, d, 1), get(t, d, 1)
	put(t, d, 1, marks(30))
	put(t, d, 0, marks(31))
	if !slices.Equal(first, marks(1)) {
		t.Errorf("what was got became %v", first)
	}
	clear(first)
	if !slices.Equal(second, marks(1)) {
		t.Errorf("what was got again became %v", second)
	}
}

func TestWhatWasGotMayBePut(t *testing.T) {
	d := filled(t, 3)
	want := image(t, d)
	got := get(t, d, 0)
	put(t, d, 2, got)
	want[2] = marks(0)
	got[5] = 1
	wantImage(t, d, want, "Put of what was got")
}

func TestMovesCountWhatWasNoError(t *testing.T) {
	d := New(2)
	wantMoves(t, d, 0, 0, "New")
	put(t, d, 0, marks(0))
	wantMoves(t, d, 0, 1, "a Put")
	put(t, d, 0, marks(0)) // the same words once more are a move too
	put(t, d, 1, marks(1))
	wantMoves(t, d, 0, 3, "three Puts")
	get(t, d, 1)
	wantMoves(t, d, 1, 3, "a Get")
	get(t, d, 1)
	d.Get(2)
	d.Get(-1)
	wantMoves(t, d, 2, 3, "two Gets, and two that were refused")
	d.Put(2, marks(2))
	d.Put(-1, marks(2))
	d.Put(0, marks(2)[:31])
	d.Put(0, append(marks(2), 0))
	d.Put(0, nil)
	wantMoves(t, d, 2, 3, "Puts that were refused")
	d.Len()
	d.Moves()
	wantMoves(t, d, 2, 3, "Len and Moves")
}

func TestDisksAreApart(t *testing.T) {
	d, other := New(2), filled(t, 2)
	get(t, other, 0)
	wantMoves(t, d, 0, 0, "calls on another disk")
	want := image(t, d)
	put(t, other, 0, marks(5))
	wantImage(t, d, want, "calls on another disk")
	wantMoves(t, other, 1, 3, "calls on another disk")
}

func TestNoDisk(t *testing.T) {
	for _, d := range []*Disk{nil, New(0), New(1025), new(Disk)} {
		for _, b := range []int{math.MinInt, -1, 0, 1, math.MaxInt} {
			if words, e := d.Get(b); len(words) != 0 || e != api.ErrArg {
				t.Errorf("Get(%d) = %v, %d", b, words, e)
			}
			for _, words := range append(badWords(), marks(0)) {
				if e := d.Put(b, words); e != api.ErrArg {
					t.Errorf("Put(%d, %d words) = %d", b, len(words), e)
				}
			}
		}
		if d.Len() != 0 {
			t.Errorf("Len() = %d", d.Len())
		}
		wantMoves(t, d, 0, 0, "calls on no disk")
	}
}

// model is what the chapter says, over a map of the words that were put.
type model struct {
	words      map[[2]int]uint64
	gets, puts int
}

func (m *model) put(n, block int, words []uint64) api.Errno {
	if block < 0 || block >= n || len(words) != 32 {
		return api.ErrArg
	}
	for w, v := range words {
		m.words[[2]int{block, w}] = v
	}
	m.puts++
	return api.OK
}

func (m *model) get(n, block int) ([]uint64, api.Errno) {
	if block < 0 || block >= n {
		return nil, api.ErrArg
	}
	var words []uint64
	for w := range 32 {
		words = append(words, m.words[[2]int{block, w}])
	}
	m.gets++
	return words, api.OK
}

func TestLongRunAgainstModel(t *testing.T) {
	const n = 4
	d, m := New(n), &model{words: map[[2]int]uint64{}}
	state := uint64(1)
	next := func(n int) int {
		state = state*6364136223846793005 + 1442695040888963407
		return int(state>>33) % n
	}
	last := make([]uint64, 32) // what was got last, written on and put again
	for i := range 20000 {
		block := next(n+2) - 1
		if next(2) == 0 {
			got, e := d.Get(block)
			want, f := m.get(n, block)
			if e != f || !slices.Equal(got, want) {
				t.Fatalf("step %d: Get(%d) = %v, %d, want %v, %d", i, block, got, e, want, f)
			}
			if e == api.OK {
				last = got
			}
		} else {
			words := last
			if next(4) == 0 {
				words = make([]uint64, 31+next(3))
			}
			if e, f := d.Put(block, words), m.put(n, block, words); e != f {
				t.Fatalf("step %d: Put(%d, %d words) = %d, want %d", i, block, len(words), e, f)
			}
		}
		last[next(32)] = state
		wantMoves(t, d, m.gets, m.puts, "a step")
	}
}

func TestChaptersExample(t *testing.T) {
	d := New(2)
	fives := slices.Repeat([]uint64{5}, 32)
	if e := d.Put(1, fives); e != api.OK {
		t.Errorf("Put(1) = %d", e)
	}
	if got, e := d.Get(1); e != api.OK || !slices.Equal(got, fives) {
		t.Errorf("Get(1) = %v, %d", got, e)
	}
	if got, e := d.Get(2); e != api.ErrArg || len(got) != 0 {
		t.Errorf("Get(2) = %v, %d", got, e)
	}
	wantMoves(t, d, 1, 1, "the example")
}
