package fds_test

import (
	"slices"
	"testing"

	"janus/api"
	"janus/fds"
)

// spoil writes over a list, and behind its end as far as it reaches.
func spoil[T any](l []T, with T) {
	l = l[:cap(l)]
	for i := range l {
		l[i] = with
	}
}

// busy has files of all kinds with one and more names.
func busy() []step {
	return steps(
		open(1, console()).is(0), open(1, inode(4)).is(1), open(1, reader(3)).is(2), open(1, api.File{Kind: api.FileWriter, Id: 3}).is(3),
		dup(1, 1).is(4),
		fork(1, 2).ok(),
		open(2, api.File{Kind: api.FileInode, Id: 2, Off: 9, Append: true}).is(5),
		open(8, inode(4)).is(0),
		seek(8, 0, 3).ok(),
	)
}

func TestWordsHandedOutAreNewMemory(t *testing.T) {
	f, g := play(t, busy()...), play(t, busy()...)
	w, v := f.Encode(), f.Encode()
	want := slices.Clone(w)
	spoil(w, 1)
	if !slices.Equal(v, want) {
		t.Errorf("another answer is %v behind the change, want %v", v, want)
	}
	spoil(v, 0)
	wantSame(t, encode(), f, g)
}

func TestIdsHandedOutAreNewMemory(t *testing.T) {
	f, g := play(t, busy()...), play(t, busy()...)
	l, m := f.Ids(api.FileInode), f.Ids(api.FileInode)
	spoil(l, 77)
	if !slices.Equal(m, []int{2, 4}) {
		t.Errorf("another answer is %v behind the change", m)
	}
	spoil(m, 77)
	wantSame(t, ids(api.FileInode), f, g)
}

func TestFilesHandedOutAreNewMemory(t *testing.T) {
	f, g := play(t, busy()...), play(t, busy()...)
	l := f.Gone(2)
	want := slices.Clone(l)
	g.Gone(2)
	m := f.Gone(1)
	g.Gone(1)
	spoil(m, api.File{Kind: 2, Id: 77, Refs: 1})
	if !slices.Equal(l, want) {
		t.Errorf("another answer is %v behind the change, want %v", l, want)
	}
	spoil(l, api.File{Kind: 2, Id: 77, Refs: 1})
	wantSame(t, gone(1), f, g)
}

func TestLaterCallsLeaveWhatWasHandedOut(t *testing.T) {
	f := play(t, busy()...)
	words, list := f.Encode(), f.Ids(api.FileInode)
	wantWords, wantList := slices.Clone(words), slices.Clone(list)
	files := f.Gone(1)
	wantFiles := slices.Clone(files)
	for _, c := range usesUp() {
		c.on(f)
	}
	if !slices.Equal(words, wantWords) || !slices.Equal(list, wantList) || !slices.Equal(files, wantFiles) {
		t.Errorf("Encode was %v, Ids %v, Gone %v behind later calls", words, list, files)
	}
}

// roomy is the words with others behind the list's end.
func roomy(w []uint64) []uint64 {
	l := append(slices.Clone(w), slices.Repeat([]uint64{1}, 100)...)
	return l[:len(w)]
}

func TestDecodeKeepsNothingOfItsWords(t *testing.T) {
	words := roomy(play(t, busy()...).Encode())
	f, e := fds.Decode(words)
	if f == nil || e != api.OK {
		t.Fatalf("Decode(%v) = %v, %d", words, f, e)
	}
	spoil(words, 3)
	wantSame(t, encode(), f, play(t, busy()...))
}

func TestDecodeLeavesItsWords(t *testing.T) {
	good := play(t, busy()...).Encode()
	for bad := -1; bad < len(good); bad++ {
		words := roomy(good)
		if bad >= 0 {
			words[bad] = 99
		}
		want := slices.Clone(words[:cap(words)])
		f, _ := fds.Decode(words)
		for _, c := range append(looksAt(), usesUp()...) {
			c.on(f)
		}
		if !slices.Equal(words[:cap(words)], want) {
			t.Errorf("words that were handed in are %v, were %v", words[:cap(words)], want)
		}
	}
}

func TestDecodeMakesThemApart(t *testing.T) {
	words := play(t, busy()...).Encode()
	f, _ := fds.Decode(words)
	g, _ := fds.Decode(words)
	for _, c := range usesUp() {
		c.on(f)
	}
	wantSame(t, encode(), g, play(t, busy()...))
}
