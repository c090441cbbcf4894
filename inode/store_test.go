package inode_test

import (
	"math"
	"slices"
	"strings"
	"testing"

	"janus/api"
	"janus/blocks"
	"janus/inode"
)

// failing is a store that answers an error at one of its calls, or from that one on.
type failing struct {
	*blocks.Disk
	calls, at int
	forever   bool
	inGet     bool // the first error was that of a Get
}

const broken api.Errno = 77

func (f *failing) fails() bool {
	f.calls++
	return f.calls == f.at || f.forever && f.calls > f.at
}

func (f *failing) Get(b int) ([]uint64, api.Errno) {
	if f.fails() {
		f.inGet = f.inGet || f.calls == f.at
		return dirt(b), broken // an error's words must not be taken
	}
	return f.Disk.Get(b)
}

func (f *failing) Put(b int, words []uint64) api.Errno {
	if f.fails() {
		return broken
	}
	return f.Disk.Put(b, words)
}

// answer is all that a call can answer.
type answer struct {
	n, m int
	x    api.Inode
	s    string
	e    api.Errno
}

// call is a call of each function, on a store that prepared made.
type call struct {
	name string
	do   func(s api.Store) answer
}

func calls() []call {
	return []call{
		{"Format", func(s api.Store) answer { return answer{e: inode.Format(s, 20)} }},
		{"Get", func(s api.Store) answer { x, e := inode.Get(s, 1); return answer{x: x, e: e} }},
		{"Put", func(s api.Store) answer { return answer{e: inode.Put(s, 1, api.Inode{Kind: 2, Links: 5})} }},
		{"Put of the same", func(s api.Store) answer { return answer{e: inode.Put(s, 9, api.Inode{})} }},
		{"Alloc", func(s api.Store) answer { i, e := inode.Alloc(s, 1); return answer{n: i, e: e} }},
		{"Free", func(s api.Store) answer { return answer{e: inode.Free(s, 1)} }},
		{"Free of what is not in use", func(s api.Store) answer { return answer{e: inode.Free(s, 9)} }},
		{"Left", func(s api.Store) answer { a, b := inode.Left(s); return answer{n: a, m: b} }},
		{"Read", func(s api.Store) answer { t, e := inode.Read(s, 1, 20, 80); return answer{s: t, e: e} }},
		{"Write", func(s api.Store) answer { return answer{e: inode.Write(s, 1, 20, strings.Repeat("w", 150))} }},
		{"Write of one", func(s api.Store) answer { return answer{e: inode.Write(s, 2, 50, "w")} }},
		{"Resize up", func(s api.Store) answer { return answer{e: inode.Resize(s, 1, 190)} }},
		{"Resize down", func(s api.Store) answer { return answer{e: inode.Resize(s, 1, 3)} }},
	}
}

// prepared is a disk with a file of 90 bytes, and one of none, on it.
func prepared(t *testing.T) *blocks.Disk {
	t.Helper()
	d := dirty(20)
	wantErr(t, "Format", inode.Format(d, 20), api.OK)
	inode.Alloc(d, api.InodeFile)
	inode.Alloc(d, api.InodeFile)
	wantErr(t, "Write", inode.Write(d, 1, 0, strings.Repeat("p", 90)), api.OK)
	return d
}

// The store's error is told, whichever of its calls it answers it to, and beside it nothing.
func TestStoreThatFails(t *testing.T) {
	for _, c := range calls() {
		for _, forever := range []bool{false, true} {
			whole := &failing{Disk: prepared(t)}
			want := c.do(whole)
			if want.e != api.OK {
				t.Fatalf("%s = %d", c.name, want.e)
			}
			if whole.calls == 0 {
				t.Fatalf("%s asks the store for nothing", c.name)
			}
			for at := 1; at <= whole.calls; at++ {
				f := &failing{Disk: prepared(t), at: at, forever: forever}
				was := snap(f.Disk)
				got := c.do(f)
				wanted := answer{e: broken}
				if c.name == "Left" {
					wanted = answer{}
				}
				if got != wanted {
					t.Errorf("%s with an error at call %d = %v", c.name, at, got)
				}
				if f.inGet && f.calls != at {
					t.Errorf("%s goes on behind an error at call %d", c.name, at)
				}
				if !forever && !slices.Equal(snap(f.Disk), was) {
					t.Errorf("%s with an error at call %d changed the store", c.name, at)
				}
			}
		}
	}
}

// readOnly refuses what is put.
type readOnly struct{ *blocks.Disk }

func (r readOnly) Put(b int, words []uint64) api.Errno { return broken }

func TestStoreThatIsNotWritten(t *testing.T) {
	d := prepared(t)
	was := snap(d)
	for _, c := range calls() {
		want := broken
		if c.name == "Get" || c.name == "Left" || c.name == "Read" {
			want = api.OK
		}
		if got := c.do(readOnly{d}); got.e != want {
			t.Errorf("%s = %v, want %d", c.name, got, want)
		}
	}
	wantErr(t, "Write", inode.Write(readOnly{d}, 1, 5, ""), api.OK)
	if !slices.Equal(snap(d), was) {
		t.Error("the disk is changed")
	}
}

func TestNilStore(t *testing.T) {
	var none *blocks.Disk
	for _, s := range []api.Store{nil, none} {
		for _, c := range calls() {
			want := answer{e: api.ErrArg}
			if c.name == "Left" {
				want = answer{}
			}
			if got := c.do(s); got != want {
				t.Errorf("%s of nil = %v", c.name, got)
			}
		}
	}
	wantErr(t, "Format", inode.Format(nil, 12), api.ErrArg)
	wantErr(t, "Write", inode.Write(nil, 1, 0, ""), api.ErrArg)
	wantErr(t, "Write", inode.Write(nil, 1, 193, "x"), api.ErrArg)
	wantErr(t, "Resize", inode.Resize(nil, 1, 193), api.ErrArg)
}

// keeper is a store that keeps the very lists that it is handed, and hands them out, with room behind
// their ends; it knows what should be in them.
type keeper struct {
	lists, copies [][]uint64
}

func newKeeper(n int) *keeper {
	k := &keeper{make([][]uint64, n), make([][]uint64, n)}
	for b := range n {
		k.lists[b] = append(dirt(b), 1, 2, 3)[:32]
		k.copies[b] = slices.Clone(k.lists[b])
	}
	return k
}

func (k *keeper) Get(b int) ([]uint64, api.Errno) {
	if b < 0 || b >= len(k.lists) {
		return nil, api.ErrArg
	}
	return k.lists[b], api.OK
}

func (k *keeper) Put(b int, words []uint64) api.Errno {
	if b < 0 || b >= len(k.lists) || len(words) != 32 {
		return api.ErrArg
	}
	k.lists[b] = words
	k.copies[b] = slices.Clone(words)
	return api.OK
}

func (k *keeper) check(t *testing.T) {
	t.Helper()
	for b, l := range k.lists {
		if !slices.Equal(l, k.copies[b]) {
			t.Fatalf("block %d was changed without a Put", b)
		}
		for c := range b {
			if &k.lists[c][0] == &l[0] {
				t.Fatalf("blocks %d and %d are one list", c, b)
			}
		}
	}
}

// R4: lists that the store hands out are not changed, and those that it is handed are its own.
func TestListsOfTheStore(t *testing.T) {
	k := newKeeper(20)
	plain := blocks.New(20)
	d := &dice{11}
	for range 400 {
		i, off, text, n := d.roll(4), d.roll(192), d.text(d.roll(100)), d.roll(193)
		do := []func(s api.Store) api.Errno{
			func(s api.Store) api.Errno { return inode.Write(s, i, off, text) },
			func(s api.Store) api.Errno { return inode.Resize(s, i, n) },
			func(s api.Store) api.Errno { return inode.Free(s, i) },
			func(s api.Store) api.Errno { _, e := inode.Alloc(s, 1); return e },
			func(s api.Store) api.Errno { return inode.Put(s, 8, api.Inode{Links: n}) },
		}[d.roll(5)]
		if k.lists[0][0] != 0x4A414E5553 {
			do = func(s api.Store) api.Errno { return inode.Format(s, 20) }
		}
		if got, want := do(k), do(plain); got != want {
			t.Fatalf("%d, want %d", got, want)
		}
		k.check(t)
		for j := range 4 {
			got, _ := inode.Read(k, j, 0, 192)
			if want, _ := inode.Read(plain, j, 0, 192); got != want {
				t.Fatalf("Read(%d) = %q, want %q", j, got, want)
			}
		}
		k.check(t)
	}
}

// odd is a store that answers so many words, of those that it has and more.
type odd struct {
	*blocks.Disk
	n int
}

func (o odd) Get(b int) ([]uint64, api.Errno) {
	words, e := o.Disk.Get(b)
	if e != api.OK || o.n < 0 {
		return nil, e
	}
	return append(words, words...)[:o.n], e
}

func TestStoreOfOtherLengths(t *testing.T) {
	for _, n := range []int{-1, 0, 1, 2, 3, 4, 9, 18, 19, 31, 32, 33, 64} {
		for _, c := range calls() {
			c.do(odd{prepared(t), n})
		}
	}
}

// numbers is words that an inode or block 0 may be made wrong with.
func numbers(d *dice) uint64 {
	l := []uint64{0, 1, 2, 3, 11, 12, 13, 14, 19, 20, 21, 31, 32, 33, 34, 64, 191, 192, 193, 1023, 1024, 1025, 1 << 31, 1 << 32, 1<<32 + 13, 1 << 62, 1 << 63, math.MaxInt64, math.MaxUint64, math.MaxUint64 - 4, d.word()}
	return l[d.roll(len(l))]
}

// tryAll does each call with all kinds of arguments; none may panic or go on without end.
func tryAll(s api.Store, d *dice) {
	for _, c := range calls() {
		if c.name != "Format" {
			c.do(s)
		}
	}
	for _, i := range []int{-1, 0, 1, 2, 31, 32, math.MaxInt} {
		inode.Get(s, i)
		for _, n := range []int{-1, 0, 1, 31, 32, 33, 192, 193, math.MaxInt, math.MinInt} {
			inode.Read(s, i, n, n)
			inode.Read(s, i, 0, n)
			inode.Read(s, i, n, math.MaxInt)
			inode.Write(s, i, n, d.text(d.roll(200)))
			inode.Write(s, i, d.roll(192), "x")
			inode.Resize(s, i, n)
		}
		inode.Free(s, i)
	}
	inode.Left(s)
}

// R1 on stores whose blocks hold other words than Format laid.
func TestOtherWords(t *testing.T) {
	d := &dice{13}
	for round := range 300 {
		s := prepared(t)
		for b := range 12 {
			words, _ := s.Get(b)
			for w := range words {
				if d.roll(1+round%20) == 0 && (b > 0 || w > 3 || d.roll(4) == 0) {
					words[w] = numbers(d)
				}
			}
			s.Put(b, words)
		}
		tryAll(s, d)
	}
	tryAll(blocks.New(20), d)
	tryAll(blocks.New(1), d)
	tryAll(dirty(20), d)
}

// R1 on inodes that Put laid: what are no blocks of files are neither read as data nor written.
func TestOtherInodes(t *testing.T) {
	d := &dice{17}
	for range 300 {
		s := prepared(t)
		x := api.Inode{Kind: int(numbers(d)), Links: int(numbers(d)), Size: int(numbers(d))}
		for k := range x.Blocks {
			x.Blocks[k] = int(numbers(d))
		}
		for i := range 3 {
			wantErr(t, "Put", inode.Put(s, i, x), api.OK)
		}
		tryAll(s, d)
	}
	s := prepared(t)
	wantErr(t, "Put", inode.Put(s, 5, api.Inode{Kind: 1, Size: 192, Blocks: [6]int{0, 1, 11, -1, 20, 1 << 40}}), api.OK)
	if got, e := inode.Read(s, 5, 0, 192); got != strings.Repeat("\x00", 192) || e != api.OK {
		t.Errorf("Read = %q, %d", got, e)
	}
	wantErr(t, "Write", inode.Write(s, 5, 0, "safe"), api.ENOSPC)
	wantErr(t, "Resize", inode.Resize(s, 5, 64), api.OK)
	wantErr(t, "Write", inode.Write(s, 5, 0, "safe"), api.OK)
	wantInode(t, s, 5, api.Inode{Kind: 1, Size: 64, Blocks: [6]int{15, 16}})
	wantInode(t, s, 0, api.Inode{Kind: 2, Links: 1})
	wantLeft(t, s, 29, 3)
	wantErr(t, "Put", inode.Put(s, 6, api.Inode{Kind: 1, Size: 40, Blocks: [6]int{0, 3, 15}}), api.OK)
	wantErr(t, "Free", inode.Free(s, 6), api.OK)
	wantInode(t, s, 6, api.Inode{})
}

// What Format did not lay is refused by all that must know what is in use.
func TestWhatFormatDidNotLay(t *testing.T) {
	spoil := []struct {
		word  int
		value uint64
	}{{0, 0}, {0, 0x4A414E5552}, {1, 0}, {1, 12}, {1, 1025}, {1, 1<<32 + 20}, {1, math.MaxUint64}, {2, 1 << 32}, {3, 0}, {3, 0xFFE}, {3, 0x7FF}, {3, 1<<20 | 0xFFF}}
	for _, x := range spoil {
		s := prepared(t)
		words, _ := s.Get(0)
		words[x.word] = x.value
		s.Put(0, words)
		for _, c := range calls() {
			if c.name == "Format" || c.name == "Get" || strings.HasPrefix(c.name, "Put") {
				continue
			}
			want := answer{e: api.ErrArg}
			if c.name == "Left" {
				want = answer{}
			}
			wantSame(t, s, c.name, func() {
				if got := c.do(s); got != want {
					t.Errorf("%s where word %d is %x = %v", c.name, x.word, x.value, got)
				}
			})
		}
	}
}

// A store of 12 blocks has no place for data: Format never lays it.
func TestHeadOfTwelveBlocks(t *testing.T) {
	s := formatted(t, 13)
	words, _ := s.Get(0)
	words[1] = 12
	s.Put(0, words)
	wantLeft(t, s, 0, 0)
	if _, e := inode.Alloc(s, 1); e != api.ErrArg {
		t.Errorf("Alloc = %d", e)
	}
}

// What an inode says it has, and has not, is 0; when it is had, too.
func TestInodeThatLacksBlocks(t *testing.T) {
	p := newPair(t, 20)
	wantErr(t, "Write", inode.Write(p.d, 1, 64, "abc"), api.OK)
	x, _ := inode.Get(p.d, 1)
	x.Blocks[0], x.Blocks[1] = 0, 7
	wantErr(t, "Put", inode.Put(p.d, 1, x), api.OK)
	for range 2 {
		if s, e := inode.Read(p.d, 1, 0, 192); s != strings.Repeat("\x00", 64)+"abc" || e != api.OK {
			t.Fatalf("Read = %q, %d", s, e)
		}
		wantErr(t, "Resize", inode.Resize(p.d, 1, 67), api.OK)
	}
	wantInode(t, p.d, 1, api.Inode{Size: 67, Blocks: [6]int{15, 16, 14}})
}

// What is in blocks that an inode has behind its Size is not there when it is longer.
func TestInodeWithBlocksBehindItsSize(t *testing.T) {
	d := formatted(t, 20)
	for size := range 65 {
		wantErr(t, "Write", inode.Write(d, 1, 0, strings.Repeat("x", 96)), api.OK)
		x, _ := inode.Get(d, 1)
		x.Size = size
		wantErr(t, "Put", inode.Put(d, 1, x), api.OK)
		wantErr(t, "Resize", inode.Resize(d, 1, 90), api.OK)
		if s, e := inode.Read(d, 1, 0, 192); s != strings.Repeat("x", size)+strings.Repeat("\x00", 90-size) || e != api.OK {
			t.Fatalf("Read = %q, %d", s, e)
		}
		wantLeft(t, d, 31, 5)
	}
}

// R4: what is handed out stays as it is, whatever is done behind it.
func TestAnswersStay(t *testing.T) {
	d := formatted(t, 20)
	data := []byte("abcdefgh")
	wantErr(t, "Write", inode.Write(d, 1, 0, string(data)), api.OK)
	s, _ := inode.Read(d, 1, 0, 8)
	x, _ := inode.Get(d, 1)
	wantErr(t, "Write", inode.Write(d, 1, 0, "zzzzzzzz"), api.OK)
	wantErr(t, "Free", inode.Free(d, 1), api.OK)
	if s != "abcdefgh" || x.Size != 8 || x.Blocks[0] != 12 {
		t.Errorf("%q, %v", s, x)
	}
}

// R5: the same calls on two stores answer, and lay, the same.
func TestSameCallsSameWords(t *testing.T) {
	run := func() []uint64 {
		d := &dice{19}
		p := newPair(t, 22)
		for range 60 {
			p.step(d)
		}
		return snap(p.d)
	}
	if !slices.Equal(run(), run()) {
		t.Error("two runs differ")
	}
}
