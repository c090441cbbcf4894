package inode_test

import (
	"math"
	"slices"
	"strings"
	"testing"

	"janus/api"
	"janus/blocks"
	"janus/inode"
)

// far is numbers that are none of anything, on both sides.
func far() []int {
	return []int{-2, -3, -9, -32, -192, -1 << 32, -1<<32 + 1, math.MinInt, math.MinInt + 1, 1 << 32, 1<<32 + 1, 1<<32 + 31, math.MaxInt - 192, math.MaxInt - 31, math.MaxInt - 1, math.MaxInt}
}

// noInodes is numbers that are no inode's.
func noInodes() []int {
	return append(far(), -1, 32, 33, 63, 64, 96)
}

// snap is all words of a disk.
func snap(d *blocks.Disk) []uint64 {
	var l []uint64
	for b := range d.Len() {
		words, _ := d.Get(b)
		l = append(l, words...)
	}
	return l
}

// wantSame does what is told, and asks that no word of the disk is changed by it.
func wantSame(t *testing.T, d *blocks.Disk, what string, do func()) {
	t.Helper()
	was := snap(d)
	do()
	if !slices.Equal(snap(d), was) {
		t.Fatalf("%s changed the disk", what)
	}
}

func wantLeft(t *testing.T, s api.Store, inodes, blocks int) {
	t.Helper()
	if a, b := inode.Left(s); a != inodes || b != blocks {
		t.Fatalf("Left() = %d, %d, want %d, %d", a, b, inodes, blocks)
	}
}

func wantInode(t *testing.T, s api.Store, i int, want api.Inode) {
	t.Helper()
	if x, e := inode.Get(s, i); x != want || e != api.OK {
		t.Fatalf("Get(%d) = %v, %d, want %v", i, x, e, want)
	}
}

func wantErr(t *testing.T, what string, got, want api.Errno) {
	t.Helper()
	if got != want {
		t.Fatalf("%s = %d, want %d", what, got, want)
	}
}

// formatted is a disk with an empty file system on it.
func formatted(t *testing.T, count int) *blocks.Disk {
	t.Helper()
	d := blocks.New(count)
	wantErr(t, "Format", inode.Format(d, count), api.OK)
	return d
}

// The chapter's example.
func TestExample(t *testing.T) {
	d := formatted(t, 20)
	wantLeft(t, d, 31, 8)
	if i, e := inode.Alloc(d, api.InodeFile); i != 1 || e != api.OK {
		t.Fatalf("Alloc = %d, %d", i, e)
	}
	wantErr(t, "Write", inode.Write(d, 1, 30, "abcd"), api.OK)
	wantInode(t, d, 1, api.Inode{Kind: api.InodeFile, Size: 34, Blocks: [6]int{12, 13}})
	if s, e := inode.Read(d, 1, 29, 3); s != "\x00ab" || e != api.OK {
		t.Fatalf("Read = %q, %d", s, e)
	}
	wantErr(t, "Resize", inode.Resize(d, 1, 5), api.OK)
	wantInode(t, d, 1, api.Inode{Kind: api.InodeFile, Size: 5, Blocks: [6]int{12}})
	wantLeft(t, d, 30, 7)
}

// 15.1: Format

// wantFormatted asks for each word that Format lays, told by hand.
func wantFormatted(t *testing.T, d *blocks.Disk, count int) {
	t.Helper()
	for b := range dataFrom {
		want := make([]uint64, 32)
		if b == 0 {
			want[0], want[1], want[2], want[3] = 0x4A414E5553, uint64(count), 1, 0xFFF
		}
		if b == 1 {
			want[0], want[1] = 2, 1
		}
		if got, _ := d.Get(b); !slices.Equal(got, want) {
			t.Fatalf("block %d behind Format(%d) is %x, want %x", b, count, got, want)
		}
	}
	for b := dataFrom; b < d.Len(); b++ {
		if got, _ := d.Get(b); !slices.Equal(got, dirt(b)) {
			t.Fatalf("block %d behind Format(%d) is not as it was", b, count)
		}
	}
}

func TestFormatLaysBlocks(t *testing.T) {
	for _, count := range []int{13, 14, 20, 63, 64, 65, 127, 128, 129, 1023, 1024} {
		d := dirty(count)
		wantErr(t, "Format", inode.Format(d, count), api.OK)
		wantFormatted(t, d, count)
		wantLeft(t, d, 31, count-12)
		wantInode(t, d, 0, api.Inode{Kind: api.InodeDir, Links: 1})
		for i := 1; i < 32; i++ {
			wantInode(t, d, i, api.Inode{})
		}
	}
}

func TestFormatOfEachCount(t *testing.T) {
	d := dirty(1024)
	for count := -40; count <= 1100; count++ {
		if may := count >= 13 && count <= 1024; may {
			wantErr(t, "Format", inode.Format(d, count), api.OK)
			wantLeft(t, d, 31, count-12)
		} else {
			wantErr(t, "Format", inode.Format(d, count), api.ErrArg)
		}
	}
	wantFormatted(t, d, 1024)
}

func TestFormatOfWhatMayNotBe(t *testing.T) {
	d := dirty(20)
	for _, count := range append(far(), 12, 11, 1, 0, -1, -13, 1025, 1088, 2048) {
		wantSame(t, d, "Format", func() {
			wantErr(t, "Format", inode.Format(d, count), api.ErrArg)
		})
	}
}

func TestFormatOverFiles(t *testing.T) {
	p := newPair(t, 20)
	p.write(p.alloc(api.InodeFile), 0, strings.Repeat("x", 192))
	was, _ := p.d.Get(14)
	wantErr(t, "Format", inode.Format(p.d, 16), api.OK)
	wantLeft(t, p.d, 31, 4)
	wantInode(t, p.d, 1, api.Inode{})
	if got, _ := p.d.Get(14); !slices.Equal(got, was) {
		t.Errorf("block 14 is changed: %x", got)
	}
	wantErr(t, "Resize", inode.Resize(p.d, 5, 96), api.OK)
	if s, e := inode.Read(p.d, 5, 0, 96); s != strings.Repeat("\x00", 96) || e != api.OK {
		t.Errorf("what is new in blocks that had bytes is %q, %d", s, e)
	}
}

// A store that has fewer blocks than Format lays: its error, and nothing is laid.
func TestFormatOfTooFewBlocks(t *testing.T) {
	for n := 1; n < 12; n++ {
		d := dirty(n)
		wantSame(t, d, "Format", func() {
			wantErr(t, "Format", inode.Format(d, 13), api.ErrArg)
		})
	}
	d := dirty(12)
	wantErr(t, "Format", inode.Format(d, 13), api.OK)
	wantFormatted(t, d, 13)
}

// A store that has fewer blocks than Format was told: its error, where one is had that it has not.
func TestBlocksThatTheStoreHasNot(t *testing.T) {
	d := dirty(15)
	wantErr(t, "Format", inode.Format(d, 1024), api.OK)
	wantLeft(t, d, 31, 1012)
	wantErr(t, "Write", inode.Write(d, 1, 0, "abc"), api.OK)
	for _, size := range []int{97, 128, 129, 192} {
		wantSame(t, d, "Resize", func() {
			wantErr(t, "Resize", inode.Resize(d, 1, size), api.ErrArg)
			wantErr(t, "Write", inode.Write(d, 1, 0, strings.Repeat("x", size)), api.ErrArg)
			wantErr(t, "Write", inode.Write(d, 2, size-1, "x"), api.ErrArg)
		})
	}
	wantErr(t, "Resize", inode.Resize(d, 1, 96), api.OK)
	wantSame(t, d, "Write", func() {
		wantErr(t, "Write", inode.Write(d, 3, 0, "x"), api.ErrArg)
	})
	wantErr(t, "Free", inode.Free(d, 1), api.OK)
	wantErr(t, "Write", inode.Write(d, 3, 0, "x"), api.OK)
	wantInode(t, d, 3, api.Inode{Size: 1, Blocks: [6]int{12}})
}

// 15.1: Get, Put

func TestGetAndPutOfWhatIsNone(t *testing.T) {
	d := formatted(t, 13)
	for _, i := range noInodes() {
		wantSame(t, d, "an inode that is none", func() {
			if x, e := inode.Get(d, i); x != (api.Inode{}) || e != api.ErrArg {
				t.Errorf("Get(%d) = %v, %d", i, x, e)
			}
			wantErr(t, "Put", inode.Put(d, i, api.Inode{Kind: 1, Links: 2, Size: 3}), api.ErrArg)
		})
	}
}

// A Put changes the nine words of its inode, wherever it lies in its block, and no other.
func TestPutChangesOneInode(t *testing.T) {
	x := api.Inode{Kind: 2, Links: 7, Size: 40, Blocks: [6]int{14, 13, 3, 4, 5, 6}}
	words := []uint64{2, 7, 40, 14, 13, 3, 4, 5, 6}
	for i := range 32 {
		d := dirty(16)
		was := snap(d)
		wantErr(t, "Put", inode.Put(d, i, x), api.OK)
		copy(was[32*(1+i/3)+i%3*9:], words)
		if !slices.Equal(snap(d), was) {
			t.Fatalf("behind Put(%d): %x, want %x", i, snap(d), was)
		}
		wantInode(t, d, i, x)
	}
}

// Whether an inode is in use is no matter to Get and Put, and a Put leaves it as it is.
func TestGetAndPutInUseOrNot(t *testing.T) {
	d := formatted(t, 20)
	for _, i := range []int{0, 1, 2, 30, 31} {
		x := api.Inode{Kind: 1, Links: i, Size: 0}
		wantErr(t, "Put", inode.Put(d, i, x), api.OK)
		wantInode(t, d, i, x)
		wantLeft(t, d, 31, 8)
	}
	if i, _ := inode.Alloc(d, 2); i != 1 {
		t.Errorf("Alloc = %d", i)
	}
	wantInode(t, d, 1, api.Inode{Kind: 2})
	wantErr(t, "Put", inode.Put(d, 1, api.Inode{}), api.OK)
	wantInode(t, d, 1, api.Inode{})
	wantLeft(t, d, 30, 8)
	if i, _ := inode.Alloc(d, 1); i != 2 {
		t.Errorf("Alloc = %d", i)
	}
}

// Any numbers are an inode's: they are got as they were put.
func TestPutOfAnyNumbers(t *testing.T) {
	d := formatted(t, 20)
	l := append(far(), -1, 0, 1, 2, 3, 192, 193, 1024)
	for k, n := range l {
		x := api.Inode{Kind: n, Links: l[len(l)-1-k], Size: n, Blocks: [6]int{n, l[0], l[1], -1, n, 5}}
		wantErr(t, "Put", inode.Put(d, k, x), api.OK)
		wantInode(t, d, k, x)
	}
	wantLeft(t, d, 31, 8)
}

// 15.1: Alloc, Free, Left

func TestAllocUntilAllAreInUse(t *testing.T) {
	d := formatted(t, 13)
	for want := 1; want < 32; want++ {
		kind := want % 3
		if i, e := inode.Alloc(d, kind); i != want || e != api.OK {
			t.Fatalf("Alloc = %d, %d, want %d", i, e, want)
		}
		wantInode(t, d, want, api.Inode{Kind: kind})
		wantLeft(t, d, 31-want, 1)
	}
	for range 3 {
		wantSame(t, d, "Alloc", func() {
			if i, e := inode.Alloc(d, 1); i != 0 || e != api.ENOSPC {
				t.Fatalf("Alloc = %d, %d", i, e)
			}
		})
	}
	for _, row := range [][]int{{7}, {31}, {0}, {20, 4}, {4, 20, 9}} {
		for _, i := range row {
			wantErr(t, "Free", inode.Free(d, i), api.OK)
		}
		slices.Sort(row)
		for _, want := range row {
			if i, e := inode.Alloc(d, 2); i != want || e != api.OK {
				t.Fatalf("Alloc behind Free = %d, %d, want %d", i, e, want)
			}
		}
		wantLeft(t, d, 0, 1)
	}
}

// No kind is refused, and of what was in the inode ahead nothing stays.
func TestAllocOfEachKind(t *testing.T) {
	for _, kind := range append(far(), -1, 0, 1, 2, 3, 99) {
		d := formatted(t, 20)
		wantErr(t, "Put", inode.Put(d, 1, api.Inode{Kind: 1, Links: 2, Size: 3, Blocks: [6]int{4, 5, 6, 7, 8, 9}}), api.OK)
		if i, e := inode.Alloc(d, kind); i != 1 || e != api.OK {
			t.Fatalf("Alloc(%d) = %d, %d", kind, i, e)
		}
		wantInode(t, d, 1, api.Inode{Kind: kind})
		wantLeft(t, d, 30, 8)
	}
}

func TestFreeOfBlocks(t *testing.T) {
	for _, size := range []int{0, 1, 32, 33, 64, 191, 192} {
		p := newPair(t, 30)
		first := p.alloc(api.InodeFile)
		i := p.alloc(api.InodeDir)
		p.write(first, 0, "stays")
		p.write(i, 0, strings.Repeat("y", size))
		wantLeft(t, p.d, 29, 17-(size+31)/32)
		p.free(i)
		wantInode(t, p.d, i, api.Inode{})
		wantLeft(t, p.d, 30, 17)
		wantSame(t, p.d, "a second Free", func() { p.free(i) })
		p.free(first)
		wantLeft(t, p.d, 31, 18)
	}
}

func TestFreeOfWhatIsNotInUse(t *testing.T) {
	d := formatted(t, 20)
	for i := 1; i < 32; i++ {
		wantSame(t, d, "Free", func() {
			wantErr(t, "Free", inode.Free(d, i), api.OK)
		})
	}
	for _, i := range noInodes() {
		wantSame(t, d, "Free", func() {
			wantErr(t, "Free", inode.Free(d, i), api.ErrArg)
		})
	}
	wantErr(t, "Free", inode.Free(d, 0), api.OK)
	wantInode(t, d, 0, api.Inode{})
	wantLeft(t, d, 32, 8)
	if i, e := inode.Alloc(d, 2); i != 0 || e != api.OK {
		t.Errorf("Alloc = %d, %d", i, e)
	}
}

// Words that are no data's are 0: those of blocks that are freed, too.
func TestFreedBlocksAreCleared(t *testing.T) {
	d := formatted(t, 20)
	was := snap(d)
	wantErr(t, "Write", inode.Write(d, 1, 0, strings.Repeat("z", 192)), api.OK)
	wantErr(t, "Resize", inode.Resize(d, 1, 65), api.OK)
	for b := 15; b < 20; b++ {
		if got, _ := d.Get(b); !slices.Equal(got, make([]uint64, 32)) {
			t.Errorf("block %d is %x", b, got)
		}
	}
	wantErr(t, "Free", inode.Free(d, 1), api.OK)
	if !slices.Equal(snap(d), was) {
		t.Errorf("behind Free: %x", snap(d))
	}
}

// 15.2: Read, Write, Resize

func TestReadAndWriteAtEdges(t *testing.T) {
	offs := []int{0, 1, 31, 32, 33, 63, 64, 160, 190, 191, 192, 193, -1, 34, 40, 41}
	lens := []int{0, 1, 2, 31, 32, 33, 64, 191, 192, 193, 400}
	d := &dice{3}
	for _, old := range []int{0, 1, 32, 34, 40, 64, 191, 192} {
		for _, off := range append(offs, old, old+1, old+33) {
			for _, n := range lens {
				p := newPair(t, 19)
				i := p.alloc(api.InodeFile)
				p.write(i, 0, d.text(old))
				p.write(i, off, d.text(n))
				for _, at := range append(offs, far()...) {
					p.read(i, at, n)
					p.read(i, at, 1)
				}
			}
		}
	}
}

func TestReadOfAnyCount(t *testing.T) {
	p := newPair(t, 20)
	i := p.alloc(api.InodeFile)
	p.write(i, 0, strings.Repeat("0123456789", 10))
	for off := -2; off < 196; off++ {
		for _, n := range append(far(), -1, 0, 1, 2, 31, 32, 33, 99, 100, 101, 192, 193) {
			p.read(i, off, n)
		}
	}
	for off := range 101 {
		for n := range 101 {
			p.read(i, off, n)
		}
	}
}

func TestReadAndWriteOfWhatMayNotBe(t *testing.T) {
	p := newPair(t, 20)
	i := p.alloc(api.InodeFile)
	p.write(i, 0, "abc")
	for _, j := range noInodes() {
		p.read(j, 0, 1)
		for _, off := range []int{0, -1, 193} {
			for _, n := range []int{0, 1, 193} {
				wantErr(t, "Write", p.write(j, off, strings.Repeat("x", n)), api.ErrArg)
			}
			wantErr(t, "Resize", p.resize(j, off), api.ErrArg)
		}
	}
	for _, off := range far() {
		want := api.EFBIG
		if off < 0 {
			want = api.ErrArg
		}
		for _, n := range []int{1, 192, 193, 1000} {
			wantErr(t, "Write", p.write(i, off, strings.Repeat("x", n)), want)
		}
		wantErr(t, "Resize", p.resize(i, off), want)
	}
	wantErr(t, "Write", p.write(i, -1, ""), api.ErrArg)
	wantErr(t, "Write", p.write(i, 0, strings.Repeat("x", 193)), api.EFBIG)
	wantErr(t, "Write", p.write(i, 192, "x"), api.EFBIG)
	wantErr(t, "Write", p.write(i, 1, strings.Repeat("x", 192)), api.EFBIG)
}

// Of no bytes: OK, as far as off may be, and nothing is changed, not even where no block is left.
func TestWriteOfNoBytes(t *testing.T) {
	d := formatted(t, 13)
	wantErr(t, "Write", inode.Write(d, 1, 3, "abc"), api.OK)
	for off := range 193 {
		wantSame(t, d, "Write", func() {
			wantErr(t, "Write", inode.Write(d, 1, off, ""), api.OK)
			wantErr(t, "Write", inode.Write(d, 2, off, ""), api.OK)
		})
	}
	for _, off := range []int{193, 194, math.MaxInt} {
		wantSame(t, d, "Write", func() {
			wantErr(t, "Write", inode.Write(d, 1, off, ""), api.EFBIG)
		})
	}
}

// A byte is a word, each of the 256.
func TestEachByte(t *testing.T) {
	d := formatted(t, 30)
	var b [256]byte
	for j := range b {
		b[j] = byte(j)
	}
	text := string(b[:])
	for i, part := range []string{text[:192], text[64:]} {
		wantErr(t, "Write", inode.Write(d, 1+i, 0, part), api.OK)
		if got, e := inode.Read(d, 1+i, 0, 192); got != part || e != api.OK {
			t.Errorf("Read = %q, %d, want %q", got, e, part)
		}
	}
	words, _ := d.Get(18 + 5)
	for w, got := range words {
		if got != uint64(224+w) {
			t.Errorf("word %d is %d", w, got)
		}
	}
}

// A file of no kind and not in use is written as any other.
func TestWriteOfWhatIsNotInUse(t *testing.T) {
	p := newPair(t, 20)
	p.write(9, 40, "abc")
	wantInode(t, p.d, 9, api.Inode{Size: 43, Blocks: [6]int{12, 13}})
	wantLeft(t, p.d, 31, 6)
	p.free(9)
	wantLeft(t, p.d, 31, 8)
}

func TestGapOfWholeBlocks(t *testing.T) {
	p := newPair(t, 20)
	i := p.alloc(api.InodeFile)
	p.write(i, 3, "a")
	p.write(i, 130, "b")
	wantInode(t, p.d, i, api.Inode{Kind: 1, Size: 131, Blocks: [6]int{12, 13, 14, 15, 16}})
	if s, _ := inode.Read(p.d, i, 0, 192); s != "\x00\x00\x00a"+strings.Repeat("\x00", 126)+"b" {
		t.Errorf("Read = %q", s)
	}
}

func TestResizeUpAndDown(t *testing.T) {
	sizes := []int{0, 1, 31, 32, 33, 65, 191, 192, 193, -1}
	d := &dice{5}
	for _, a := range sizes {
		for _, b := range sizes {
			for _, c := range sizes {
				p := newPair(t, 18)
				i := p.alloc(api.InodeFile)
				p.write(i, 0, d.text(min(max(a, 0), 192)))
				for _, size := range []int{a, b, c, c} {
					p.resize(i, size)
				}
			}
		}
	}
}

// What is cut off is not there again when the file is longer, by Resize or by Write.
func TestCutBytesAreGone(t *testing.T) {
	d := formatted(t, 20)
	for _, grow := range []func() api.Errno{
		func() api.Errno { return inode.Resize(d, 1, 41) },
		func() api.Errno { return inode.Write(d, 1, 40, "\x00") },
	} {
		wantErr(t, "Write", inode.Write(d, 1, 0, strings.Repeat("x", 64)), api.OK)
		wantErr(t, "Resize", inode.Resize(d, 1, 33), api.OK)
		wantErr(t, "longer", grow(), api.OK)
		if s, _ := inode.Read(d, 1, 0, 192); s != strings.Repeat("x", 33)+strings.Repeat("\x00", 8) {
			t.Errorf("Read = %q", s)
		}
	}
}

// As many blocks are left as are needed, one fewer, or none.
func TestBlocksThatAreLeft(t *testing.T) {
	for old := range 7 {
		for need := 1; need+old <= 6; need++ {
			for left := range need + 2 {
				p := newPair(t, 12+6+old+left)
				filler, i := p.alloc(api.InodeFile), p.alloc(api.InodeFile)
				p.resize(filler, 192)
				p.write(i, 0, strings.Repeat("o", old*32))
				want := api.OK
				if left < need {
					want = api.ENOSPC
				}
				was := snap(p.d)
				wantErr(t, "Write", p.write(i, (old+need)*32-1, "x"), want)
				if want == api.OK {
					p.resize(i, old*32)
				} else if !slices.Equal(snap(p.d), was) {
					t.Fatal("a Write that was refused changed the disk")
				}
				wantErr(t, "Resize", p.resize(i, (old+need-1)*32+1), want)
				if want == api.OK {
					p.resize(i, old*32)
				} else if !slices.Equal(snap(p.d), was) {
					t.Fatal("a Resize that was refused changed the disk")
				}
				wantErr(t, "Write", p.write(i, 0, strings.Repeat("n", old*32)), api.OK)
			}
		}
	}
}

// EFBIG is told where blocks are short, too, and ErrArg ahead of both.
func TestWhichErrorIsFirst(t *testing.T) {
	d := formatted(t, 13)
	wantErr(t, "Resize", inode.Resize(d, 1, 32), api.OK)
	wantSame(t, d, "what is refused", func() {
		wantErr(t, "Write", inode.Write(d, 1, 192, "xx"), api.EFBIG)
		wantErr(t, "Write", inode.Write(d, 1, 191, "x"), api.ENOSPC)
		wantErr(t, "Write", inode.Write(d, 32, 192, "xx"), api.ErrArg)
		wantErr(t, "Write", inode.Write(d, -1, 191, "x"), api.ErrArg)
		wantErr(t, "Write", inode.Write(d, 1, -1, strings.Repeat("x", 500)), api.ErrArg)
		wantErr(t, "Resize", inode.Resize(d, 1, 193), api.EFBIG)
		wantErr(t, "Resize", inode.Resize(d, 1, 192), api.ENOSPC)
		wantErr(t, "Resize", inode.Resize(d, 32, 193), api.ErrArg)
		wantErr(t, "Resize", inode.Resize(d, 1, -1), api.ErrArg)
	})
}

// Blocks are had lowest first: also those that were freed, whoever had them.
func TestLowestBlocksFirst(t *testing.T) {
	p := newPair(t, 24)
	a, b, c := p.alloc(1), p.alloc(1), p.alloc(1)
	p.resize(a, 64)
	p.resize(b, 96)
	p.resize(c, 64)
	p.resize(b, 32)
	p.free(a)
	p.write(c, 190, "zz")
	wantInode(t, p.d, c, api.Inode{Kind: 1, Size: 192, Blocks: [6]int{17, 18, 12, 13, 15, 16}})
	p.resize(c, 33)
	p.write(b, 64, "y")
	wantInode(t, p.d, b, api.Inode{Kind: 1, Size: 65, Blocks: [6]int{14, 12, 13}})
	wantInode(t, p.d, c, api.Inode{Kind: 1, Size: 33, Blocks: [6]int{17, 18}})
}

// All of the 1012 blocks of the greatest store are had, as far as inodes go.
func TestGreatestStore(t *testing.T) {
	d := formatted(t, 1024)
	next := dataFrom
	for i := range 32 {
		text := strings.Repeat(string(rune('A'+i)), 192)
		wantErr(t, "Write", inode.Write(d, i, 0, text), api.OK)
		x, _ := inode.Get(d, i)
		for _, b := range x.Blocks {
			if b != next {
				t.Fatalf("inode %d has block %d, want %d", i, b, next)
			}
			next++
		}
	}
	wantLeft(t, d, 31, 1012-192)
	for i := range 32 {
		if s, e := inode.Read(d, i, 0, 192); s != strings.Repeat(string(rune('A'+i)), 192) || e != api.OK {
			t.Fatalf("Read(%d) = %q, %d", i, s, e)
		}
	}
}
