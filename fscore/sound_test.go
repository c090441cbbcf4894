package fscore_test

import (
	"testing"

	"janus/api"
	"janus/blocks"
	"janus/dir"
	"janus/inode"
)

// wantSound asks that a disk is as chapter 15 and 16 tell it: a block is one inode's, those that are
// in use are the inodes' and no others, inodes have as many links as names (a nameless one is in use
// only where it is open), and all words that are no data's are 0.
func wantSound(t *testing.T, d *blocks.Disk, open ...int) {
	t.Helper()
	head, _ := d.Get(0)
	var names, inUse [32]int
	for i := range inUse {
		inUse[i] = int(head[2] >> i & 1)
	}
	names[0]++
	for i := range 32 {
		_, to := dir.List(d, i)
		for _, k := range to {
			names[k]++
		}
	}
	owner := map[int]int{}
	for i := range 32 {
		x, _ := inode.Get(d, i)
		wantSoundNode(t, i, x, names[i], inUse[i], open)
		for k, b := range x.Blocks {
			if (b != 0) != (k*32 < x.Size) {
				t.Fatalf("inode %d is %v", i, x)
			}
			if b == 0 {
				continue
			}
			if _, had := owner[b]; had {
				t.Fatalf("block %d is two inodes'", b)
			}
			owner[b] = i
			wantZeros(t, d, b, min(max(x.Size-k*32, 0), 32))
		}
	}
	for b := 12; b < d.Len(); b++ {
		_, had := owner[b]
		if used := head[3+b/64]>>(b%64)&1 == 1; used != had {
			t.Fatalf("block %d: in use is %t, had is %t", b, used, had)
		}
		if !had {
			wantZeros(t, d, b, 0)
		}
	}
}

func wantSoundNode(t *testing.T, i int, x api.Inode, names, inUse int, open []int) {
	t.Helper()
	isOpen := 0
	for _, k := range open {
		if k == i {
			isOpen = 1
		}
	}
	if x.Links != names || inUse != min(names+isOpen, 1) || (x.Kind == api.InodeFree) != (inUse == 0) || x.Kind == api.InodeDir && names != 1 {
		t.Fatalf("inode %d is %v, with %d names, in use: %d", i, x, names, inUse)
	}
	if inUse == 0 && x != (api.Inode{}) {
		t.Fatalf("inode %d is %v, and not in use", i, x)
	}
}

// wantZeros asks that a block's words are 0 from that one on, and bytes ahead of it.
func wantZeros(t *testing.T, d *blocks.Disk, b, from int) {
	t.Helper()
	words, _ := d.Get(b)
	for w, x := range words {
		if x > 255 || w >= from && x != 0 {
			t.Fatalf("block %d has %v, of which %d are data", b, words, from)
		}
	}
}
