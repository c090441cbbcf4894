package fscore_test

import (
	"math"
	"slices"
	"strconv"
	"strings"
	"testing"

	"janus/api"
	"janus/blocks"
	"janus/dir"
	"janus/fscore"
	"janus/inode"
)

func folder(path string) api.Node {
	return api.Node{Path: path, Dir: true}
}

func file(path, data string) api.Node {
	return api.Node{Path: path, Data: data}
}

// made is a disk with that tree on it.
func made(t *testing.T, count int, tree ...api.Node) *blocks.Disk {
	t.Helper()
	d := blocks.New(count)
	wantErr(t, "Make", fscore.Make(d, count, tree), api.OK)
	return d
}

// The inodes of house's disk, as Make has them in its tree's order.
const (
	rootDir = iota
	aDir
	bDir
	cDir
	xFile
	yFile
	emptyDir
	topFile
	freeInode // is not in use, nor is one behind it
)

var xText = strings.Repeat("x", 40)

func house(t *testing.T, count int) *blocks.Disk {
	t.Helper()
	return made(t, count, folder("/a"), folder("/a/b"), folder("/a/b/c"), file("/a/b/c/x", xText), file("/a/y", "y"), folder("/empty"), file("/top", "the top"))
}

// far is numbers that are no inode's, on both sides.
func far() []int {
	return []int{-1, -2, -31, -32, -1 << 32, -1<<32 + 1, math.MinInt, math.MinInt + 1, 32, 33, 63, 64, 96, 255, 256, 257, 1 << 32, 1<<32 + 1, 1<<32 + 4, math.MaxInt - 1, math.MaxInt}
}

// snap is all words of a disk.
func snap(d *blocks.Disk) []uint64 {
	var l []uint64
	for b := range d.Len() {
		words, _ := d.Get(b)
		l = append(l, words...)
	}
	return l
}

// copied is another disk with the same words.
func copied(d *blocks.Disk) *blocks.Disk {
	n := blocks.New(d.Len())
	for b := range d.Len() {
		words, _ := d.Get(b)
		n.Put(b, words)
	}
	return n
}

// wantSame does what is told, and asks that no word of the disk is changed by it.
func wantSame(t *testing.T, d *blocks.Disk, what string, do func()) {
	t.Helper()
	was := snap(d)
	do()
	if !slices.Equal(snap(d), was) {
		t.Fatalf("%s changed the disk", what)
	}
}

func wantErr(t *testing.T, what string, got, want api.Errno) {
	t.Helper()
	if got != want {
		t.Fatalf("%s = %d, want %d", what, got, want)
	}
}

// wantCall asks for what a call answers; behind an error nothing is changed.
func wantCall(t *testing.T, d *blocks.Disk, what string, want api.Errno, do func() api.Errno) {
	t.Helper()
	was := snap(d)
	wantErr(t, what, do(), want)
	if want != api.OK && !slices.Equal(snap(d), was) {
		t.Fatalf("%s = %d changed the disk", what, want)
	}
}

func wantCreate(t *testing.T, d *blocks.Disk, path string, want int, e api.Errno) {
	t.Helper()
	wantCall(t, d, "Create("+path+")", e, func() api.Errno {
		i, err := fscore.Create(d, path)
		if i != want {
			t.Fatalf("Create(%q) = %d, %d, want %d, %d", path, i, err, want, e)
		}
		return err
	})
}

func wantMkdir(t *testing.T, d *blocks.Disk, path string, e api.Errno) {
	t.Helper()
	wantCall(t, d, "Mkdir("+path+")", e, func() api.Errno { return fscore.Mkdir(d, path) })
}

func wantUnlink(t *testing.T, d *blocks.Disk, path string, open []int, e api.Errno) {
	t.Helper()
	wantCall(t, d, "Unlink("+path+")", e, func() api.Errno { return fscore.Unlink(d, path, open) })
}

func wantLink(t *testing.T, d *blocks.Disk, from, to string, e api.Errno) {
	t.Helper()
	wantCall(t, d, "Link("+from+", "+to+")", e, func() api.Errno { return fscore.Link(d, from, to) })
}

func wantRename(t *testing.T, d *blocks.Disk, from, to string, open []int, e api.Errno) {
	t.Helper()
	wantCall(t, d, "Rename("+from+", "+to+")", e, func() api.Errno { return fscore.Rename(d, from, to, open) })
}

func wantTree(t *testing.T, s api.Store, want ...api.Node) {
	t.Helper()
	if got := fscore.Tree(s); !slices.Equal(got, want) {
		t.Fatalf("Tree = %+v, want %+v", got, want)
	}
}

func wantLeft(t *testing.T, s api.Store, inodes, count int) {
	t.Helper()
	if a, b := inode.Left(s); a != inodes || b != count {
		t.Fatalf("Left = %d, %d, want %d, %d", a, b, inodes, count)
	}
}

// wantNode asks for an inode's Kind and Links, and for its bytes.
func wantNode(t *testing.T, s api.Store, i, kind, links int, data string) {
	t.Helper()
	x, e := inode.Get(s, i)
	text, _ := inode.Read(s, i, 0, 192)
	if e != api.OK || x.Kind != kind || x.Links != links || x.Size != len(data) || text != data {
		t.Fatalf("inode %d is %v, %d, %q, want Kind %d, Links %d, %q", i, x, e, text, kind, links, data)
	}
}

// wantFree asks that an inode is all 0.
func wantFree(t *testing.T, s api.Store, i int) {
	t.Helper()
	if x, e := inode.Get(s, i); x != (api.Inode{}) || e != api.OK {
		t.Fatalf("inode %d is %v, %d", i, x, e)
	}
}

// wantNames asks for a directory's names, in their order.
func wantNames(t *testing.T, s api.Store, i int, want ...string) {
	t.Helper()
	if names, _ := dir.List(s, i); !slices.Equal(names, want) {
		t.Fatalf("directory %d has %q, want %q", i, names, want)
	}
}

// leaveInodes lets so many inodes be not in use, by empty files of no name that have the others.
func leaveInodes(t *testing.T, d *blocks.Disk, n int) {
	t.Helper()
	for {
		left, _ := inode.Left(d)
		if left <= n {
			return
		}
		_, e := inode.Alloc(d, api.InodeFile)
		wantErr(t, "Alloc", e, api.OK)
	}
}

// leaveBlocks lets so many blocks be not in use, by files of no name that have the others.
func leaveBlocks(t *testing.T, d *blocks.Disk, n int) {
	t.Helper()
	for {
		_, left := inode.Left(d)
		if left <= n {
			return
		}
		i, e := inode.Alloc(d, api.InodeFile)
		wantErr(t, "Alloc", e, api.OK)
		wantErr(t, "Write", inode.Write(d, i, 0, strings.Repeat("f", 32*min(6, left-n))), api.OK)
	}
}

// crowd lets a directory have so many entries, by names of one file.
func crowd(t *testing.T, d *blocks.Disk, path string, n int) {
	t.Helper()
	i, e := dir.Walk(d, path)
	wantErr(t, "Walk", e, api.OK)
	names, _ := dir.List(d, i)
	for k := len(names); k < n; k++ {
		wantLink(t, d, "/top", path+"/n"+strconv.Itoa(k), api.OK)
	}
}

// grows answers whether a directory of so many entries needs a block more for one more.
func grows(entries int) bool {
	return (entries*9+9+31)/32 > (entries*9+31)/32
}

// wrong is a path, and the error that chapter 16 has for it on house's disk.
type wrong struct {
	path string
	e    api.Errno
}

// splitErrors is paths that Split refuses.
func splitErrors() []wrong {
	return []wrong{
		{"", api.ENOENT},
		{strings.Repeat("/", 33), api.ENAMETOOLONG},
		{"/a/b/c/" + strings.Repeat("/", 25) + "x", api.ENAMETOOLONG},
		{strings.Repeat("a", 1000), api.ENAMETOOLONG},
		{"/123456789", api.ENAMETOOLONG},
		{"/a/123456789", api.ENAMETOOLONG},
		{"/123456789/a", api.ENAMETOOLONG},
		{"/no/123456789", api.ENAMETOOLONG},
		{"/top/123456789", api.ENAMETOOLONG},
		{"/\x00", api.EINVAL},
		{"/a\x00", api.EINVAL},
		{"/no/a\x00b", api.EINVAL},
		{"/top/\x00/x", api.EINVAL},
	}
}

// parentErrors is paths that Parent refuses.
func parentErrors() []wrong {
	return append(splitErrors(),
		wrong{"/", api.EINVAL},
		wrong{"///", api.EINVAL},
		wrong{strings.Repeat("/", 32), api.EINVAL},
		wrong{"/no/x", api.ENOENT},
		wrong{"/a/no/x", api.ENOENT},
		wrong{"/a/b/c/no/x", api.ENOENT},
		wrong{"/no/x/y/z", api.ENOENT},
		wrong{"/empty/x/y", api.ENOENT},
		wrong{"/top/x", api.ENOTDIR},
		wrong{"/top/x/y", api.ENOTDIR},
		wrong{"/a/y/no", api.ENOTDIR},
		wrong{"a/b/c/x/no", api.ENOTDIR},
	)
}

// walkErrors is paths that Walk refuses.
func walkErrors() []wrong {
	return append(splitErrors(),
		wrong{"/no", api.ENOENT},
		wrong{"no", api.ENOENT},
		wrong{"/no/x", api.ENOENT},
		wrong{"/a/no", api.ENOENT},
		wrong{"/a/b/c/no", api.ENOENT},
		wrong{"/empty/x", api.ENOENT},
		wrong{"/A", api.ENOENT},
		wrong{"/to", api.ENOENT},
		wrong{"/top/x", api.ENOTDIR},
		wrong{"/top/x/y", api.ENOTDIR},
		wrong{"/a/b/c/x/no", api.ENOTDIR},
	)
}

// The chapter's examples.
func TestExamples(t *testing.T) {
	d := made(t, 60, folder("/d"), file("/d/f", "xy"))
	wantTree(t, d, folder("/d"), file("/d/f", "xy"))
	wantUnlink(t, d, "/d", nil, api.EISDIR)
	wantLink(t, d, "/d/f", "/g", api.OK)
	wantUnlink(t, d, "/d/f", nil, api.OK)
	wantTree(t, d, folder("/d"), file("/g", "xy"))
	wantRename(t, d, "/d", "/d/e", nil, api.EINVAL)
	wantTree(t, d, folder("/d"), file("/g", "xy"))
}

func TestHouse(t *testing.T) {
	d := house(t, 40)
	wantTree(t, d, folder("/a"), folder("/a/b"), folder("/a/b/c"), file("/a/b/c/x", xText), file("/a/y", "y"), folder("/empty"), file("/top", "the top"))
	wantNames(t, d, rootDir, "a", "empty", "top")
	wantNames(t, d, aDir, "b", "y")
	wantNames(t, d, bDir, "c")
	wantNames(t, d, cDir, "x")
	wantNames(t, d, emptyDir)
	wantNode(t, d, xFile, api.InodeFile, 1, xText)
	wantNode(t, d, yFile, api.InodeFile, 1, "y")
	wantNode(t, d, topFile, api.InodeFile, 1, "the top")
	wantNode(t, d, emptyDir, api.InodeDir, 1, "")
	for i := freeInode; i < 32; i++ {
		wantFree(t, d, i)
	}
	wantLeft(t, d, 24, 40-12-4-4)
}

// 17.1: Create and Mkdir

func TestCreate(t *testing.T) {
	for _, at := range []struct {
		path string
		dir  int
	}{{"/new", rootDir}, {"new", rootDir}, {"//new//", rootDir}, {"/a/new", aDir}, {"/a/b/new", bDir}, {"/a/b/c/new", cDir}, {"/empty/new/", emptyDir}} {
		d := house(t, 40)
		names, _ := dir.List(d, at.dir)
		wantCreate(t, d, at.path, freeInode, api.OK)
		wantNode(t, d, freeInode, api.InodeFile, 1, "")
		wantNames(t, d, at.dir, append(names, "new")...)
		if i, e := dir.Walk(d, at.path); i != freeInode || e != api.OK {
			t.Errorf("Walk(%q) = %d, %d", at.path, i, e)
		}
		wantSame(t, d, "Create once more", func() { wantCreate(t, d, at.path, freeInode, api.OK) })
	}
}

func TestMkdir(t *testing.T) {
	for _, at := range []struct {
		path string
		dir  int
	}{{"/new", rootDir}, {"new", rootDir}, {"//new//", rootDir}, {"/a/new", aDir}, {"/a/b/new", bDir}, {"/a/b/c/new", cDir}, {"/empty/new/", emptyDir}} {
		d := house(t, 40)
		names, _ := dir.List(d, at.dir)
		wantMkdir(t, d, at.path, api.OK)
		wantNode(t, d, freeInode, api.InodeDir, 1, "")
		wantNames(t, d, at.dir, append(names, "new")...)
		if i, e := dir.Walk(d, at.path); i != freeInode || e != api.OK {
			t.Errorf("Walk(%q) = %d, %d", at.path, i, e)
		}
		wantMkdir(t, d, at.path, api.EEXIST)
		wantCreate(t, d, at.path+"/in", freeInode+1, api.OK)
		wantMkdir(t, d, at.path+"/in2", api.OK)
		wantNames(t, d, freeInode, "in", "in2")
		x, _ := inode.Get(d, at.dir)
		if x.Links != 1 {
			t.Errorf("directory %d has %d links", at.dir, x.Links)
		}
	}
}

// The lowest inode that is not in use is had.
func TestLowestInode(t *testing.T) {
	d := house(t, 40)
	wantUnlink(t, d, "/a/b/c/x", nil, api.OK)
	wantUnlink(t, d, "/top", nil, api.OK)
	wantCreate(t, d, "/one", xFile, api.OK)
	wantMkdir(t, d, "/two", api.OK)
	wantNode(t, d, topFile, api.InodeDir, 1, "")
	wantCreate(t, d, "/two/three", freeInode, api.OK)
}

// Where the name is there already.
func TestCreateOfWhatIsThere(t *testing.T) {
	d := house(t, 40)
	wantLink(t, d, "/top", "/a/also", api.OK)
	wantSame(t, d, "Create", func() {
		wantCreate(t, d, "/top", topFile, api.OK)
		wantCreate(t, d, "/a/also", topFile, api.OK)
		wantCreate(t, d, "/a/y", yFile, api.OK)
		wantCreate(t, d, "/a/b/c/x/", xFile, api.OK)
	})
	for _, path := range []string{"/a", "/a/", "/a/b", "/a/b/c", "/empty"} {
		wantCreate(t, d, path, 0, api.EISDIR)
		wantMkdir(t, d, path, api.EEXIST)
	}
	for _, path := range []string{"/top", "/a/also", "/a/y", "/a/b/c/x"} {
		wantMkdir(t, d, path, api.EEXIST)
	}
	wantNode(t, d, topFile, api.InodeFile, 2, "the top")
}

func TestCreateErrors(t *testing.T) {
	d := house(t, 40)
	for _, w := range parentErrors() {
		wantCreate(t, d, w.path, 0, w.e)
		wantMkdir(t, d, w.path, w.e)
		wantLink(t, d, "/top", w.path, w.e)
	}
}

// Errors of a path are told ahead of what is there, and that ahead of want of space.
func TestCreateErrorsInTheirOrder(t *testing.T) {
	d := house(t, 40)
	leaveBlocks(t, d, 0)
	leaveInodes(t, d, 0)
	for _, w := range parentErrors() {
		wantCreate(t, d, w.path, 0, w.e)
		wantMkdir(t, d, w.path, w.e)
		wantLink(t, d, "/top", w.path, w.e)
	}
	wantCreate(t, d, "/a", 0, api.EISDIR)
	wantCreate(t, d, "/top", topFile, api.OK)
	wantCreate(t, d, "/new", 0, api.ENOSPC)
	wantMkdir(t, d, "/a", api.EEXIST)
	wantMkdir(t, d, "/top", api.EEXIST)
	wantMkdir(t, d, "/new", api.ENOSPC)
}

func TestInodesLeft(t *testing.T) {
	for _, left := range []int{0, 1, 2} {
		for _, path := range []string{"/new", "/a/new", "/empty/new"} {
			d := house(t, 40)
			leaveInodes(t, d, left)
			e, other := api.OK, api.OK
			if left == 0 {
				e = api.ENOSPC
			}
			if left <= 1 {
				other = api.ENOSPC
			}
			if left == 0 {
				wantCreate(t, d, path, 0, e)
			} else {
				wantCreate(t, d, path, 32-left, e)
			}
			wantMkdir(t, d, "/other", other)
			inodes, _ := inode.Left(d)
			if inodes != max(left-2, 0) {
				t.Errorf("%d inodes are left of %d", inodes, left)
			}
			wantLink(t, d, "/top", "/linked", api.OK)
		}
	}
}

func TestTwentyOneEntries(t *testing.T) {
	for _, path := range []string{"/", "/a", "/empty"} {
		makes := []func(d *blocks.Disk, path string, e api.Errno){
			func(d *blocks.Disk, path string, e api.Errno) {
				want := 0
				if e == api.OK {
					want = freeInode
				}
				wantCreate(t, d, path, want, e)
			},
			func(d *blocks.Disk, path string, e api.Errno) { wantMkdir(t, d, path, e) },
			func(d *blocks.Disk, path string, e api.Errno) { wantLink(t, d, "/top", path, e) },
		}
		for _, do := range makes {
			d := house(t, 60)
			crowd(t, d, path, 20)
			do(d, path+"/last", api.OK)
			do(d, path+"/more", api.ENOSPC)
			wantMkdir(t, d, path+"/last", api.EEXIST)
			wantLink(t, d, "/top", path+"/last", api.EEXIST)
			wantMkdir(t, d, path+"/more", api.ENOSPC)
			wantCreate(t, d, path+"/more", 0, api.ENOSPC)
		}
	}
}

// With as many blocks as are needed, and with one fewer, at each length that a directory may have.
func TestBlocksLeft(t *testing.T) {
	for n := range 21 {
		for left := range 2 {
			d := house(t, 60)
			crowd(t, d, "/empty", n)
			leaveBlocks(t, d, left)
			e := api.OK
			if left == 0 && grows(n) {
				e = api.ENOSPC
			}
			inodes, _ := inode.Left(d)
			want := 0
			if e == api.OK {
				want = 32 - inodes
			}
			wantCreate(t, copied(d), "/empty/new", want, e)
			wantMkdir(t, copied(d), "/empty/new", e)
			wantLink(t, copied(d), "/top", "/empty/new", e)
			if e == api.OK && n < 20 {
				wantMkdir(t, d, "/empty/new", api.OK)
				_, blocks := inode.Left(d)
				if grows(n) != (blocks == left-1) {
					t.Errorf("%d blocks are left behind entry %d", blocks, n+1)
				}
			}
		}
	}
}

// 17.1: Link and Unlink

func TestLinks(t *testing.T) {
	d := house(t, 40)
	wantLeft(t, d, 24, 20)
	wantLink(t, d, "/top", "/a/b/two", api.OK)
	wantNode(t, d, topFile, api.InodeFile, 2, "the top")
	wantLink(t, d, "/a/b/two", "/empty/three", api.OK)
	wantNode(t, d, topFile, api.InodeFile, 3, "the top")
	wantLeft(t, d, 24, 19) // the empty directory has got a block
	wantNames(t, d, bDir, "c", "two")
	wantNames(t, d, emptyDir, "three")
	for _, path := range []string{"/top", "/a/b/two", "/empty/three"} {
		if i, _ := dir.Walk(d, path); i != topFile {
			t.Errorf("%s is %d", path, i)
		}
	}
	wantErr(t, "Write", inode.Write(d, topFile, 0, "THE"), api.OK)
	wantTree(t, d, folder("/a"), folder("/a/b"), folder("/a/b/c"), file("/a/b/c/x", xText), file("/a/b/two", "THE top"), file("/a/y", "y"),
		folder("/empty"), file("/empty/three", "THE top"), file("/top", "THE top"))
}

// Each of three names is taken away, in each order: the bytes are there until the last one is gone.
func TestUnlinkInTurn(t *testing.T) {
	paths := []string{"/top", "/a/b/two", "/empty/three"}
	for _, order := range [][]int{{0, 1, 2}, {0, 2, 1}, {1, 0, 2}, {1, 2, 0}, {2, 0, 1}, {2, 1, 0}} {
		for _, open := range []bool{false, true} {
			var l []int
			if open {
				l = []int{topFile}
			}
			d := house(t, 40)
			wantLink(t, d, "/top", paths[1], api.OK)
			wantLink(t, d, "/top", paths[2], api.OK)
			for k, n := range order {
				wantNode(t, d, topFile, api.InodeFile, 3-k, "the top")
				wantUnlink(t, d, paths[n], l, api.OK)
				if _, e := dir.Walk(d, paths[n]); e != api.ENOENT {
					t.Fatalf("%s is there still: %d", paths[n], e)
				}
				wantUnlink(t, d, paths[n], l, api.ENOENT)
			}
			if open {
				wantNode(t, d, topFile, api.InodeFile, 0, "the top")
				wantLeft(t, d, 24, 20)
				fscore.Close(d, topFile)
			}
			wantFree(t, d, topFile)
			wantLeft(t, d, 25, 21)
		}
	}
}

func TestUnlinkWithOpen(t *testing.T) {
	for _, c := range []struct {
		open []int
		kept bool
	}{
		{nil, false}, {[]int{}, false}, {[]int{topFile}, true}, {[]int{topFile, topFile}, true}, {[]int{rootDir, xFile, topFile}, true},
		{[]int{topFile, -1, 99}, true}, {[]int{xFile}, false}, {[]int{0, 1, 2, 3, 4, 5, 6, 8, 31}, false}, {far(), false}, {append(far(), topFile), true},
		{[]int{topFile + 32, topFile - 32, -topFile, topFile + 256, topFile + 1<<32}, false}, {[]int{xFile, topFile}[:1], false},
	} {
		d := house(t, 40)
		was := slices.Clone(c.open)
		wantUnlink(t, d, "/top", c.open, api.OK)
		if !slices.Equal(c.open, was) {
			t.Errorf("open is %d, was %d", c.open, was)
		}
		if _, e := dir.Walk(d, "/top"); e != api.ENOENT {
			t.Errorf("/top is there still: %d", e)
		}
		if c.kept {
			wantNode(t, d, topFile, api.InodeFile, 0, "the top")
			wantLeft(t, d, 24, 20)
			wantCreate(t, d, "/top", freeInode, api.OK)
			continue
		}
		wantFree(t, d, topFile)
		wantLeft(t, d, 25, 21)
		wantCreate(t, d, "/top", topFile, api.OK)
		wantNode(t, d, topFile, api.InodeFile, 1, "")
	}
}

// A file with more names stays, whether it is open or not.
func TestUnlinkOfOneOfTwo(t *testing.T) {
	for _, open := range [][]int{nil, {topFile}} {
		d := house(t, 40)
		wantLink(t, d, "/top", "/a/also", api.OK)
		wantUnlink(t, d, "/top", open, api.OK)
		wantNode(t, d, topFile, api.InodeFile, 1, "the top")
		wantNames(t, d, rootDir, "a", "empty")
		wantNames(t, d, aDir, "b", "y", "also")
		wantSame(t, d, "Close", func() { fscore.Close(d, topFile) })
	}
}

// Those behind the name that is gone move up.
func TestUnlinkLeavesTheOthers(t *testing.T) {
	for n := 1; n <= 21; n++ {
		for k := range n {
			d := made(t, 60, file("/top", "t"), folder("/d"))
			crowd(t, d, "/d", n)
			names, _ := dir.List(d, 2)
			wantUnlink(t, d, "/d/n"+strconv.Itoa(k), nil, api.OK)
			wantNames(t, d, 2, slices.Delete(names, k, k+1)...)
			wantNode(t, d, 1, api.InodeFile, n, "t")
		}
	}
}

func TestUnlinkErrors(t *testing.T) {
	for _, full := range []bool{false, true} {
		d := house(t, 40)
		if full {
			leaveBlocks(t, d, 0)
			leaveInodes(t, d, 0)
		}
		for _, w := range walkErrors() {
			wantUnlink(t, d, w.path, nil, w.e)
			wantUnlink(t, d, w.path, []int{0, topFile}, w.e)
		}
		for _, path := range []string{"/", "//", strings.Repeat("/", 32), "/a", "/a/b", "/a/b/c/", "/empty"} {
			wantUnlink(t, d, path, nil, api.EISDIR)
			wantUnlink(t, d, path, []int{0, 1, 2, 3}, api.EISDIR)
		}
		wantUnlink(t, d, "/a/b/c/x", nil, api.OK)
		wantFree(t, d, xFile)
		wantNames(t, d, cDir)
	}
}

func TestLinkErrorsInTheirOrder(t *testing.T) {
	d := house(t, 40)
	tos := append(parentErrors(), wrong{"/top", 0}, wrong{"/a", 0}, wrong{"/new", 0})
	for _, w := range walkErrors() {
		for _, to := range tos {
			wantLink(t, d, w.path, to.path, w.e)
		}
	}
	for _, from := range []string{"/", "/a", "/a/b/c", "/empty"} {
		for _, to := range tos {
			wantLink(t, d, from, to.path, api.EISDIR)
		}
	}
	for _, to := range []string{"/a", "/a/b", "/empty/", "/top", "/a/y", "/a/b/c/x"} {
		wantLink(t, d, "/top", to, api.EEXIST)
	}
	crowd(t, d, "/empty", 21)
	wantLink(t, d, "/a/y", "/empty/n7", api.EEXIST)
	wantLink(t, d, "/a/y", "/empty/new", api.ENOSPC)
	wantLink(t, d, "/a", "/empty/new", api.EISDIR)
	wantNode(t, d, yFile, api.InodeFile, 1, "y")
}

// A link needs no inode, and no block but its directory's.
func TestLinkOnAFullDisk(t *testing.T) {
	d := house(t, 40)
	leaveBlocks(t, d, 0)
	leaveInodes(t, d, 0)
	wantLink(t, d, "/top", "/a/new", api.OK)
	wantLink(t, d, "/top", "/empty/new", api.ENOSPC)
	wantLink(t, d, "/top", "/new", api.ENOSPC)
	wantNode(t, d, topFile, api.InodeFile, 2, "the top")
	wantUnlink(t, d, "/a/y", nil, api.OK)
	wantLink(t, d, "/top", "/new", api.OK)
	wantLink(t, d, "/top", "/empty/new", api.ENOSPC)
	wantNode(t, d, topFile, api.InodeFile, 3, "the top")
}

// 17.1: Close

func TestClose(t *testing.T) {
	d := house(t, 40)
	wantUnlink(t, d, "/a/b/c/x", []int{xFile}, api.OK)
	wantSame(t, d, "Close", func() {
		for _, i := range append(far(), rootDir, aDir, bDir, cDir, yFile, emptyDir, topFile, freeInode, 31) {
			fscore.Close(d, i)
		}
	})
	wantLeft(t, d, 24, 21) // its directory's block is gone
	fscore.Close(d, xFile)
	wantFree(t, d, xFile)
	wantLeft(t, d, 25, 23)
	wantSame(t, d, "Close once more", func() { fscore.Close(d, xFile) })
}

// Only a file is freed, not whatever has no links.
func TestCloseOfOtherKinds(t *testing.T) {
	d := house(t, 40)
	for _, i := range []int{rootDir, emptyDir, aDir} {
		x, _ := inode.Get(d, i)
		x.Links = 0
		wantErr(t, "Put", inode.Put(d, i, x), api.OK)
	}
	other, _ := inode.Alloc(d, 3)
	wantSame(t, d, "Close", func() {
		for _, i := range []int{rootDir, emptyDir, aDir, other} {
			fscore.Close(d, i)
		}
	})
}

// An inode that has a file's words, but is not in use, is left as it is.
func TestCloseOfWhatIsNotInUse(t *testing.T) {
	d := house(t, 40)
	for _, i := range []int{freeInode, 20, 31} {
		wantErr(t, "Put", inode.Put(d, i, api.Inode{Kind: api.InodeFile}), api.OK)
		wantErr(t, "Write", inode.Write(d, i, 0, "bytes"), api.OK)
		wantSame(t, d, "Close", func() { fscore.Close(d, i) })
	}
	i, e := inode.Alloc(d, api.InodeFile)
	wantErr(t, "Alloc", e, api.OK)
	wantErr(t, "Write", inode.Write(d, i, 0, "bytes"), api.OK)
	fscore.Close(d, i)
	wantFree(t, d, i)
}
