package exodisk

import (
	"slices"
	"testing"

	"janus/api"
	"janus/blocks"
)

// recorder is a disk that tells which blocks were read and written, in their order.
type recorder struct {
	disk       *blocks.Disk
	gets, puts []int
	refuses    bool
}

func (x *recorder) Get(block int) ([]uint64, api.Errno) {
	if x.refuses {
		return nil, api.ErrNone
	}
	x.gets = append(x.gets, block)
	return x.disk.Get(block)
}

func (x *recorder) Put(block int, words []uint64) api.Errno {
	if x.refuses {
		return api.ErrNone
	}
	x.puts = append(x.puts, block)
	return x.disk.Put(block, words)
}

// recorded is a kernel whose disk tells what was done to it, and of which environment 1 has all blocks in slot 1.
func recorded(t *testing.T, n int) (*Kernel, *recorder) {
	t.Helper()
	k := New(n)
	x := &recorder{disk: blocks.New(n)}
	k.disk, k.cache = x, newCache(x, n)
	if slot, e := k.Alloc(1, 0, n); slot != 1 || e != api.OK {
		t.Fatalf("Alloc answers %d, %d", slot, e)
	}
	return k, x
}

func block(v uint64) []uint64 { return slices.Repeat([]uint64{v}, api.BlockWords) }

func wantBlocks(t *testing.T, what string, got []int, want ...int) {
	t.Helper()
	if !slices.Equal(got, want) {
		t.Errorf("%s are %v, want %v", what, got, want)
	}
}

// 12.2: Sync writes by rising numbers, each block that is changed once, whatever the order in which they were put.
func TestSyncWritesByRisingNumbers(t *testing.T) {
	for _, order := range [][]int{{0, 1, 2}, {2, 1, 0}, {7, 0, 3, 7, 4, 0}, {5}, {6, 5, 4, 3, 2, 1, 0, 7}} {
		k, x := recorded(t, 8)
		for _, b := range order {
			if e := k.Put(1, 1, b, block(uint64(b)+1)); e != api.OK {
				t.Fatalf("Put answers %d", e)
			}
		}
		wantBlocks(t, "ahead of Sync, those written", x.puts)
		rising := slices.Compact(slices.Sorted(slices.Values(order)))
		if n := k.Sync(); n != len(rising) {
			t.Errorf("Sync() = %d, want %d", n, len(rising))
		}
		wantBlocks(t, "those written", x.puts, rising...)
		if n := k.Sync(); n != 0 {
			t.Errorf("a second Sync() = %d", n)
		}
		wantBlocks(t, "behind a second Sync, those written", x.puts, rising...)
		wantBlocks(t, "those read", x.gets)
	}
}

// 12.2: a block that is there is not read from the disk once more, and what is read is not written.
func TestWhatIsThereIsNotReadAgain(t *testing.T) {
	k, x := recorded(t, 4)
	for _, b := range []int{2, 0, 2, 0, 2} {
		k.Get(1, 1, b)
		k.View(1, 1).Get(b)
	}
	wantBlocks(t, "those read", x.gets, 2, 0)
	k.Put(1, 1, 3, block(5))
	k.Get(1, 1, 3)
	k.Sync()
	k.Get(1, 1, 3)
	k.Get(1, 1, 0)
	wantBlocks(t, "behind Put and Sync, those read", x.gets, 2, 0)
	wantBlocks(t, "those written", x.puts, 3)
	k.Get(1, 1, 1)
	wantBlocks(t, "those read", x.gets, 2, 0, 1)
}

// What is refused reads and writes nothing.
func TestWhatIsRefusedDoesNotReachTheDisk(t *testing.T) {
	k, x := recorded(t, 4)
	k.Get(2, 1, 0)
	k.Get(1, 2, 0)
	k.Get(1, 1, 4)
	k.Get(1, 1, -1)
	k.Put(2, 1, 0, block(1))
	k.Put(1, 1, 0, nil)
	k.Put(1, 1, 4, block(1))
	k.View(1, 1).Get(4)
	k.View(1, 1).Put(-1, block(1))
	k.Cached()
	k.Sync()
	wantBlocks(t, "those read", x.gets)
	wantBlocks(t, "those written", x.puts)
}

// A block that what lies below refuses is not there, and one that it does not take stays changed.
func TestAStoreThatRefuses(t *testing.T) {
	k, x := recorded(t, 4)
	k.Put(1, 1, 1, block(5))
	x.refuses = true
	if words, e := k.Get(1, 1, 0); len(words) != 0 || e != api.ErrNone {
		t.Errorf("Get answers %v, %d", words, e)
	}
	wantBlocks(t, "those there", k.Cached(), 1)
	if n := k.Sync(); n != 0 {
		t.Errorf("Sync() = %d", n)
	}
	x.refuses = false
	if n := k.Sync(); n != 1 || !slices.Equal(k.Disk(1), block(5)) {
		t.Errorf("Sync() = %d, and the disk has %v", n, k.Disk(1))
	}
}
