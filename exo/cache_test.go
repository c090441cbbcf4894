package exo

import (
	"slices"
	"testing"

	"janus/api"
)

// oneToAll is a kernel of 4 frames and 8 blocks in which environment 1 has all blocks in slot 1.
func oneToAll(t *testing.T) *Kernel {
	t.Helper()
	k := New(4, 8)
	k.Create(1)
	if slot, e := k.Raw(1, []uint64{callAllocExtent, 0, 8}); e != api.OK || !slices.Equal(slot, []uint64{1}) {
		t.Fatalf("Alloc of all blocks answers %v, %d", slot, e)
	}
	return k
}

func ask(k *Kernel) {
	for env := -1; env <= api.MaxEnvs; env++ {
		k.Sees(env)
	}
	for n := -1; n <= 8; n++ {
		k.Block(n)
		k.Frame(n)
	}
}

func wantCached(t *testing.T, k *Kernel, want ...int) {
	t.Helper()
	if got := k.extents.Cached(); !slices.Equal(got, want) {
		t.Errorf("the cache has %v, want %v", got, want)
	}
}

// 13.2: to ask lets no block be in the cache that is not there, and lets those that are changed be changed.
func TestToAskLeavesTheCache(t *testing.T) {
	k := oneToAll(t)
	ask(k)
	wantCached(t, k)
	k.Raw(1, []uint64{callGet, 1, 6})
	ask(k)
	wantCached(t, k, 6)
	full := slices.Repeat([]uint64{5}, api.BlockWords)
	k.Raw(1, append([]uint64{callPut, 1, 2}, full...))
	ask(k)
	wantCached(t, k, 2, 6)
	if got := k.extents.Disk(2); !slices.Equal(got, make([]uint64, api.BlockWords)) {
		t.Errorf("the disk has %v", got)
	}
	if n := k.extents.Sync(); n != 1 {
		t.Errorf("%d blocks were changed", n)
	}
	ask(k)
	if got := k.Block(2); !slices.Equal(got, full) {
		t.Errorf("Block(2) = %v", got)
	}
	if n := k.extents.Sync(); n != 0 {
		t.Errorf("%d blocks were changed behind Sync", n)
	}
	wantCached(t, k, 2, 6)
}

// What is on the disk and not in the cache is told too, and what the cache has ahead of what the disk has.
func TestAskOfWhatTheDiskHas(t *testing.T) {
	k := oneToAll(t)
	for i, v := range []uint64{5, 6} {
		full := slices.Repeat([]uint64{v}, api.BlockWords)
		k.Raw(1, append([]uint64{callPut, 1, 2}, full...))
		if got := k.Block(2); !slices.Equal(got, full) {
			t.Errorf("Block(2) = %v", got)
		}
		if sees := k.Sees(1); !slices.Equal(sees[5+2*32:5+3*32], full) {
			t.Errorf("Sees(1) = %v", sees)
		}
		if n := k.extents.Sync(); n != 1 {
			t.Errorf("Put %d: %d blocks were changed", i, n)
		}
	}
}

// 13.1: chapter 10's environments have 16 slices, all nobody's.
func TestSlices(t *testing.T) {
	k := New(1, 1)
	k.Create(1)
	if got, want := k.envs.Vector(), slices.Repeat([]int{-1}, 16); !slices.Equal(got, want) {
		t.Errorf("the slices are %v", got)
	}
}

// A kernel has the sizes that it was asked for.
func TestSizes(t *testing.T) {
	k := New(3, 5)
	if k.frames.Left() != 3 || len(k.extents.Disk(4)) != api.BlockWords || len(k.extents.Disk(5)) != 0 {
		t.Errorf("%d frames are free", k.frames.Left())
	}
}
