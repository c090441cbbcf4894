package fds_test

import (
	"math"
	"slices"
	"testing"

	"janus/api"
	"janus/fds"
)

// table is the words of a process's six descriptors; those that are not told are free.
func table(names ...uint64) []uint64 {
	return append(slices.Clone(names), make([]uint64, 6-len(names))...)
}

// words is a count, files of four words, and the tables of the first processes; the others have none.
func words(n uint64, files [][4]uint64, tables ...[]uint64) []uint64 {
	w := []uint64{n}
	for _, x := range files {
		w = append(w, x[:]...)
	}
	for _, t := range tables {
		w = append(w, t...)
	}
	return append(w, make([]uint64, 6*(8-len(tables)))...)
}

// wantBack asks for the same one from its words, and answers that.
func wantBack(t *testing.T, f *fds.Fds) *fds.Fds {
	t.Helper()
	w := f.Encode()
	back, e := fds.Decode(w)
	if back == nil || e != api.OK {
		t.Fatalf("Decode(%v) = %v, %d", w, back, e)
	}
	if v := back.Encode(); !slices.Equal(v, w) {
		t.Fatalf("%v became %v", w, v)
	}
	for _, c := range looksAt() {
		if got, want := c.on(back), c.on(f); !got.same(want) {
			t.Fatalf("from words: %v answers %v, want %v", c, got, want)
		}
	}
	return back
}

// wantWords asks for the words behind the steps, and for the same back from them; both are used up.
func wantWords(t *testing.T, want []uint64, steps ...step) {
	t.Helper()
	f := play(t, append(steps, encode().words(want))...)
	wantSame(t, encode(), wantBack(t, f), f)
}

// wantNone asks for a refusal.
func wantNone(t *testing.T, w []uint64) {
	t.Helper()
	if f, e := fds.Decode(w); f != nil || e != api.ErrArg {
		t.Errorf("Decode(%v) = %v, %d, want nil, ErrArg", w, f, e)
	}
}

// wantRead asks for the one whose Encode is w.
func wantRead(t *testing.T, w []uint64) *fds.Fds {
	t.Helper()
	f, e := fds.Decode(w)
	if f == nil || e != api.OK {
		t.Fatalf("Decode(%v) = %v, %d", w, f, e)
	}
	if v := f.Encode(); !slices.Equal(v, w) {
		t.Fatalf("%v became %v", w, v)
	}
	return f
}

func TestEncodeOfNothing(t *testing.T) {
	wantWords(t, make([]uint64, 49))
	wantWords(t, make([]uint64, 49), opens(3, 0, 4), dup(3, 0).is(1), gone(3).told(one(inode(4)), inode(4)))
}

func TestEncodeOfOneFile(t *testing.T) {
	for pid := 1; pid <= lastPid; pid++ {
		for fd := range api.MaxFd {
			want := words(1, [][4]uint64{{2, 4, 0, 0}})
			want[5+6*(pid-1)+fd] = 1
			l := opened(pid, 10, fd)
			l = append(l, opens(pid, fd, 4))
			for lower := range fd {
				l = append(l, ends(pid, lower, 10+lower, 0))
			}
			wantWords(t, want, l...)
		}
	}
}

func TestEncodeOfEachKindOfFile(t *testing.T) {
	for kind := api.FileConsole; kind <= api.FileWriter; kind++ {
		for _, id := range []int{0, 1, 31, 1<<20 - 1, 1 << 20} {
			for _, off := range []int{0, 1, 192, 1<<20 - 1, 1 << 20} {
				for appends, bit := range map[bool]uint64{false: 0, true: 1} {
					x := api.File{Kind: kind, Id: id, Off: off, Append: appends, Refs: 7}
					wantWords(t, words(1, [][4]uint64{{uint64(kind), uint64(id), uint64(off), bit}}, table(1)), open(1, x).is(0))
				}
			}
		}
	}
}

func TestEncodeOfOneFileWithSeveralNames(t *testing.T) {
	wantWords(t, words(1, [][4]uint64{{2, 4, 9, 0}}, table(1, 1), table(1, 1, 1), table()),
		opens(1, 0, 4), dup(1, 0).is(1), fork(1, 2).ok(), dup(2, 0).is(2), seek(2, 1, 9).ok())
	all := slices.Repeat([]uint64{1}, 48)
	l := steps(opens(1, 0, 4), dup(1, 0).is(1), dup(1, 0).is(2), dup(1, 0).is(3), dup(1, 0).is(4), dup(1, 0).is(5))
	for pid := 2; pid <= lastPid; pid++ {
		l = append(l, fork(1, pid).ok())
	}
	wantWords(t, append([]uint64{1, 2, 4, 0, 0}, all...), l...)
}

// Files come where they are named first, not in the order in which they were opened.
func TestEncodeOrdersFiles(t *testing.T) {
	wantWords(t, words(3, [][4]uint64{{2, 12, 0, 0}, {2, 10, 0, 0}, {2, 11, 0, 0}}, table(1), table(), table(2, 3)),
		opens(3, 0, 10), opens(3, 1, 11), opens(1, 0, 12))
	wantWords(t, words(2, [][4]uint64{{2, 11, 0, 0}, {2, 10, 0, 0}}, table(1, 2, 1)),
		opens(1, 0, 10), dup(1, 0).is(1), opens(1, 2, 11), ends(1, 0, 10, 1), dup(1, 2).is(0))
	wantWords(t, words(2, [][4]uint64{{2, 10, 0, 0}, {2, 11, 0, 0}}, table(), table(0, 1), table(2, 1, 2)),
		opens(3, 0, 11), opens(3, 1, 10), dup(3, 0).is(2), opens(2, 0, 12), fork(3, 2).ok(), ends(2, 2, 11, 2), ends(2, 0, 12, 0))
	wantWords(t, words(2, [][4]uint64{{1, 0, 0, 0}, {2, 4, 5, 1}}, table(1), table(1, 2)), // by names alone, not by what they are
		open(2, console()).is(0), open(2, api.File{Kind: 2, Id: 4, Off: 5, Append: true}).is(1), fork(2, 1).ok(), closes(1, 1).tells(api.File{Kind: 2, Id: 4, Off: 5, Append: true, Refs: 1}))
}

// Two files that are alike stay two.
func TestEncodeOfFilesAlike(t *testing.T) {
	wantWords(t, words(3, [][4]uint64{{2, 4, 0, 0}, {2, 4, 0, 0}, {2, 4, 0, 0}}, table(1, 2, 2), table(3)),
		opens(1, 0, 4), opens(1, 1, 4), dup(1, 1).is(2), opens(2, 0, 4))
}

func TestEncodeOfManyFiles(t *testing.T) {
	for _, n := range []int{2, 6, 7, 31, 32} {
		want := []uint64{uint64(n)}
		for i := range n {
			want = append(want, 2, uint64(100+i), 0, 0)
		}
		for i := range 48 {
			if i < n {
				want = append(want, uint64(i+1))
			} else {
				want = append(want, 0)
			}
		}
		wantWords(t, want, many(n)...)
	}
}

func TestEncodeTellsWhatEachCallChanged(t *testing.T) {
	play(t,
		opens(2, 0, 4), encode().words(words(1, [][4]uint64{{2, 4, 0, 0}}, table(), table(1))),
		seek(2, 0, 8).ok(), encode().words(words(1, [][4]uint64{{2, 4, 8, 0}}, table(), table(1))),
		dup(2, 0).is(1), encode().words(words(1, [][4]uint64{{2, 4, 8, 0}}, table(), table(1, 1))),
		open(1, console()).is(0), encode().words(words(2, [][4]uint64{{1, 0, 0, 0}, {2, 4, 8, 0}}, table(1), table(2, 2))),
		fork(2, 1).ok(), encode().words(words(2, [][4]uint64{{1, 0, 0, 0}, {2, 4, 8, 0}}, table(1, 2), table(2, 2))),
		closes(1, 0).tells(console()), encode().words(words(1, [][4]uint64{{2, 4, 8, 0}}, table(0, 1), table(1, 1))),
		gone(2).told(at(refs(inode(4), 2), 8), at(refs(inode(4), 1), 8)), encode().words(words(1, [][4]uint64{{2, 4, 8, 0}}, table(0, 1))),
		closes(1, 1).tells(at(inode(4), 8)), encode().words(make([]uint64, 49)),
	)
}

// What can be opened, but not be read from words, ends all the same.
func TestDecodeOfFilesThatAreNone(t *testing.T) {
	for _, x := range []api.File{{}, {Kind: 5}, {Kind: -1}, {Kind: math.MaxInt}, {Kind: 1<<32 + 1}, {Kind: 2, Id: -1}, {Kind: 2, Off: -1}, {Kind: 2, Id: 1<<20 + 1}, {Kind: 2, Off: 1<<20 + 1}, {Kind: 2, Id: math.MinInt}, {Kind: 2, Off: math.MaxInt}} {
		wantNone(t, play(t, open(1, x).is(0)).Encode())
	}
	wantNone(t, play(t, opens(1, 0, 4), seek(1, 0, math.MaxInt).ok()).Encode())
}

// good is words that can be read.
func good() [][]uint64 {
	return [][]uint64{
		words(0, nil),
		words(1, [][4]uint64{{2, 4, 0, 0}}, table(1)),
		words(1, [][4]uint64{{3, 1 << 20, 1 << 20, 1}}, table(), table(0, 1, 0, 0, 1)),
		words(2, [][4]uint64{{2, 4, 0, 0}, {2, 4, 0, 0}}, table(1, 2)),
		words(3, [][4]uint64{{1, 0, 0, 0}, {2, 5, 7, 1}, {4, 3, 0, 0}}, table(1, 2), table(), table(0, 3, 2, 1, 0, 3), table(), table(), table(), table(), table(0, 0, 0, 0, 0, 2)),
	}
}

func TestDecodeOfGoodWords(t *testing.T) {
	for _, w := range good() {
		wantBack(t, wantRead(t, w))
	}
	f := wantRead(t, good()[4])
	for _, s := range steps(
		get(1, 0).tells(api.File{Kind: 1, Refs: 2}),
		get(3, 2).tells(api.File{Kind: 2, Id: 5, Off: 7, Append: true, Refs: 3}),
		get(8, 5).tells(api.File{Kind: 2, Id: 5, Off: 7, Append: true, Refs: 3}),
		get(3, 5).tells(api.File{Kind: 4, Id: 3, Refs: 2}),
		left(1).is(4), left(2).is(6), left(3).is(2), left(8).is(5),
		open(1, inode(9)).is(2),
		gone(3).told(api.File{Kind: 4, Id: 3, Refs: 1}, api.File{Kind: 2, Id: 5, Off: 7, Append: true, Refs: 2}, api.File{Kind: 1, Refs: 1}, api.File{Kind: 4, Id: 3}),
	) {
		if got := s.on(f); !got.same(s.want) {
			t.Errorf("%v answers %v, want %v", s.call, got, s.want)
		}
	}
}

func TestDecodeOfOtherThanItsLength(t *testing.T) {
	for n := range 200 {
		if n != 49 {
			wantNone(t, make([]uint64, n))
		}
	}
	wantNone(t, nil)
	wantNone(t, []uint64{})
	wantNone(t, []uint64{math.MaxUint64})
	for _, w := range good() {
		for n := range len(w) {
			wantNone(t, w[:n]) // what lies behind its end is none of a list's
		}
		wantNone(t, append(slices.Clone(w), 0))
		wantNone(t, append(slices.Clone(w), 1))
		wantNone(t, append([]uint64{0}, w...))
		wantNone(t, append(slices.Clone(w), w...))
	}
	wantRead(t, make([]uint64, 49, 100))
}

// wide is words that are no small numbers, among them some that would be if bits were lost, or if they were counted round.
func wide() []uint64 {
	return []uint64{1 << 31, 1 << 32, 1<<32 + 1, 1<<32 + 2, 1 << 60, 1<<60 + 1, 1 << 61, 1<<61 + 1, 1 << 62, 1<<62 + 1, 3 << 62, 1<<63 - 1, 1 << 63, 1<<63 + 1, math.MaxUint64 - 1, math.MaxUint64}
}

func TestDecodeOfAnotherCount(t *testing.T) {
	for _, w := range good() {
		for n := range uint64(60) {
			if v := slices.Clone(w); n != w[0] {
				v[0] = n
				wantNone(t, v)
			}
		}
		for _, n := range wide() {
			v := slices.Clone(w)
			v[0] = n
			wantNone(t, v)
		}
	}
	// so many files, so many names: 48 descriptors could name them, but 33 are never open
	for n := range 49 {
		w := []uint64{uint64(n)}
		for range n {
			w = append(w, 2, 4, 0, 0)
		}
		for i := range 48 {
			w = append(w, uint64((i+1)*map[bool]int{true: 1}[i < n]))
		}
		if n <= 32 {
			wantRead(t, w)
		} else {
			wantNone(t, w)
		}
	}
}

func TestDecodeOfEachWordOfAFile(t *testing.T) {
	of := func(at int, v uint64) []uint64 {
		w := words(2, [][4]uint64{{2, 4, 0, 0}, {3, 1, 2, 1}}, table(1), table(2))
		w[at] = v
		return w
	}
	for _, file := range []int{1, 5} {
		for kind := range uint64(12) {
			if kind >= 1 && kind <= 4 {
				wantRead(t, of(file, kind))
			} else {
				wantNone(t, of(file, kind))
			}
		}
		for _, at := range []int{file + 1, file + 2} {
			for _, v := range []uint64{0, 1, 1<<20 - 1, 1 << 20} {
				wantRead(t, of(at, v))
			}
			for _, v := range []uint64{1<<20 + 1, 1<<20 + 2, 1 << 21} {
				wantNone(t, of(at, v))
			}
		}
		wantRead(t, of(file+3, 0))
		wantRead(t, of(file+3, 1))
		for v := uint64(2); v < 9; v++ {
			wantNone(t, of(file+3, v))
		}
		for at := file; at < file+4; at++ {
			for _, v := range wide() {
				wantNone(t, of(at, v))
			}
		}
	}
}

func TestDecodeOfAFileThatIsNotNamed(t *testing.T) {
	x := [4]uint64{2, 4, 0, 0}
	wantNone(t, words(1, [][4]uint64{x}))
	wantNone(t, words(2, [][4]uint64{x, x}, table(1)))
	wantNone(t, words(2, [][4]uint64{x, x}, table(2)))
	wantNone(t, words(2, [][4]uint64{x, x}, table(1, 1, 1), table(1)))
	wantNone(t, words(3, [][4]uint64{x, x, x}, table(1), table(3)))
	wantNone(t, words(3, [][4]uint64{x, x, x}, table(1), table(2)))
}

func TestDecodeOfFilesInAnotherOrder(t *testing.T) {
	x, y := [4]uint64{2, 4, 0, 0}, [4]uint64{1, 0, 0, 0}
	wantRead(t, words(2, [][4]uint64{x, y}, table(1, 2)))
	wantRead(t, words(2, [][4]uint64{y, x}, table(1, 2)))
	wantNone(t, words(2, [][4]uint64{x, y}, table(2, 1)))
	wantNone(t, words(2, [][4]uint64{x, x}, table(2, 1))) // alike, but counted otherwise than Encode would
	wantNone(t, words(2, [][4]uint64{x, y}, table(0, 2), table(1)))
	wantNone(t, words(2, [][4]uint64{x, y}, table(), table(2), table(), table(), table(), table(), table(), table(1)))
	wantNone(t, words(3, [][4]uint64{x, y, x}, table(1, 3, 2)))
	wantNone(t, words(3, [][4]uint64{x, y, x}, table(1, 1, 3), table(2)))
	wantRead(t, words(3, [][4]uint64{x, y, x}, table(1, 1, 2), table(3, 1, 2)))
}

func TestDecodeOfNamesOfWhatIsNotThere(t *testing.T) {
	for _, w := range good() {
		first := 1 + 4*int(w[0])
		for at := first; at < len(w); at++ {
			for _, v := range append(wide(), w[0]+1, w[0]+2, 6, 32, 33, 48, 255, 256) {
				bad := slices.Clone(w)
				bad[at] = v
				wantNone(t, bad)
			}
		}
	}
}

// read is Decode once more, in the words of the model: what it makes of the words, if that has these words.
func read(w []uint64) (*model, bool) {
	if len(w) < 49 || w[0] > 32 || uint64(len(w)) != 49+4*w[0] {
		return nil, false
	}
	m, tail := &model{}, w[len(w)-48:]
	files := []*api.File{nil}
	for rest := w[1 : len(w)-48]; len(rest) > 0; rest = rest[4:] {
		if rest[0]-1 > 3 || rest[1] > 1048576 || rest[2] > 1048576 {
			return nil, false
		}
		files = append(files, &api.File{Kind: int(rest[0]), Id: int(rest[1]), Off: int(rest[2]), Append: rest[3] == 1})
	}
	for i, name := range tail {
		if name >= uint64(len(files)) {
			return nil, false
		}
		m.names[1+i/6][i%6] = files[name]
	}
	return m, slices.Equal(m.encode(), w)
}

// wantAsRead asks Decode for what read says, and answers whether that is something.
func wantAsRead(t *testing.T, w []uint64) bool {
	t.Helper()
	m, ok := read(w)
	if !ok {
		wantNone(t, w)
		return false
	}
	wantLike(t, 0, wantRead(t, w), m, append(looksAt(), gone(1), gone(2), encode())...)
	return true
}

// All ways in which five descriptors of two processes name up to three files.
func TestDecodeOfAllSmallTables(t *testing.T) {
	can := 0
	x := [][4]uint64{{2, 4, 0, 0}, {2, 4, 0, 0}, {3, 1, 0, 1}}
	for n := range 4 {
		for row := range 4 * 4 * 4 * 4 * 4 {
			var names []uint64
			for left := row; len(names) < 5; left /= 4 {
				names = append(names, uint64(left%4))
			}
			if wantAsRead(t, words(uint64(n), x[:n], table(names[0], names[1], 0, 0, 0, names[2]), table(names[3], names[4]))) {
				can++
			}
		}
	}
	if can != 1+31+90+65 { // of 5 descriptors: none named; 1, 2 and 3 files, by Stirling's numbers of 6 things in 2, 3, 4 heaps
		t.Errorf("%d were read", can)
	}
}

// Words that are changed at one or two places, or drawn whole.
func TestDecodeOfDrawnWords(t *testing.T) {
	can, cannot := 0, 0
	for seed := range 3000 {
		d := dice(seed)
		f := fresh(t)
		for range d.below(60) {
			d.call(5).on(f)
		}
		w := f.Encode()
		for range d.below(3) {
			w[d.below(len(w))] = pickOf(&d, append(wide(), 0, 0, 1, 1, 2, 2, 3, 4, 5, 6, 32, 33, 1<<20, 1<<20+1))
		}
		if d.below(20) == 0 {
			for i := range w {
				w[i] = uint64(d.below(4))
			}
		}
		if wantAsRead(t, w) {
			can++
		} else {
			cannot++
		}
	}
	if can < 500 || cannot < 500 {
		t.Errorf("%d were read, %d were not", can, cannot)
	}
}
