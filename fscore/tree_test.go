package fscore_test

import (
	"math"
	"slices"
	"strconv"
	"strings"
	"testing"

	"janus/api"
	"janus/blocks"
	"janus/fscore"
	"janus/inode"
)

// wantMake asks for what a Make answers on a disk; behind an error nothing is changed.
func wantMake(t *testing.T, d *blocks.Disk, count int, want api.Errno, tree ...api.Node) {
	t.Helper()
	was := slices.Clone(tree)
	wantCall(t, d, "Make", want, func() api.Errno { return fscore.Make(d, count, tree) })
	if !slices.Equal(tree, was) {
		t.Fatalf("the tree is %+v, was %+v", tree, was)
	}
}

// 17.3: Make

func TestMakeOfNothing(t *testing.T) {
	for _, count := range []int{13, 14, 60, 1023, 1024} {
		for _, tree := range [][]api.Node{nil, {}} {
			d := blocks.New(count)
			wantMake(t, d, count, api.OK, tree...)
			other := blocks.New(count)
			inode.Format(other, count)
			if !slices.Equal(snap(d), snap(other)) {
				t.Errorf("Make of %d blocks lays other words than Format", count)
			}
			wantTree(t, d)
			wantLeft(t, d, 31, count-12)
			wantNode(t, d, 0, api.InodeDir, 1, "")
		}
	}
}

func TestMakeOfBlocks(t *testing.T) {
	for _, count := range []int{-1, 0, 1, 11, 12, 1025, 1026, 1 << 32, 1<<32 + 20, math.MinInt, math.MaxInt, -20, -1024} {
		d := house(t, 40)
		wantMake(t, d, count, api.ErrArg)
		wantMake(t, d, count, api.ErrArg, folder("/d"))
		wantMake(t, d, count, api.ErrArg, folder(""), file("/f", strings.Repeat("x", 500))) // ahead of the tree's
	}
	for _, room := range []int{1, 11} {
		wantMake(t, blocks.New(room), 20, api.ErrArg)
	}
}

// What was there is gone, whatever it was.
func TestMakeAnew(t *testing.T) {
	d := house(t, 60)
	wantMake(t, d, 50, api.OK, file("/f", "new"))
	wantTree(t, d, file("/f", "new"))
	wantLeft(t, d, 30, 50-12-2)
	words := make([]uint64, 32)
	for w := range words {
		words[w] = math.MaxUint64
	}
	for b := range 60 {
		d.Put(b, words)
	}
	wantMake(t, d, 60, api.OK, folder("/d"), file("/d/f", "a"))
	wantTree(t, d, folder("/d"), file("/d/f", "a"))
	for b := 15; b < 60; b++ {
		if got, _ := d.Get(b); !slices.Equal(got, words) {
			t.Fatalf("block %d is not as it was", b)
		}
	}
	wantLeft(t, d, 29, 45)
}

func TestMakeOfData(t *testing.T) {
	for _, n := range []int{0, 1, 31, 32, 33, 63, 64, 65, 160, 161, 191, 192} {
		data := (&dice{uint64(n)}).text(n)
		d := made(t, 40, file("/f", data))
		wantNode(t, d, 1, api.InodeFile, 1, data)
		wantTree(t, d, file("/f", data))
		wantLeft(t, d, 30, 40-12-1-(n+31)/32)
		wantSound(t, d)
	}
	d := house(t, 40)
	for _, n := range []int{193, 194, 224, 1000, 100000} {
		wantMake(t, d, 40, api.EFBIG, file("/f", strings.Repeat("x", n)))
		wantMake(t, d, 40, api.EFBIG, folder("/d"), file("/d/f", strings.Repeat("x", n)), folder(""))
	}
	wantMake(t, d, 40, api.OK, api.Node{Path: "/d", Dir: true, Data: strings.Repeat("x", 500)}) // a directory's Data is of no account
	wantTree(t, d, folder("/d"))
	wantNode(t, d, 1, api.InodeDir, 1, "")
}

// A file that comes twice has the later bytes alone.
func TestMakeOfAPathTwice(t *testing.T) {
	for _, l := range [][2]string{{"first", "second one"}, {strings.Repeat("x", 192), "y"}, {"abc", ""}, {"", "abc"}, {"", ""}, {"a", strings.Repeat("b", 192)}} {
		d := made(t, 20, folder("/d"), file("/d/f", l[0]), file("//d//f/", l[1]))
		wantTree(t, d, folder("/d"), file("/d/f", l[1]))
		wantNode(t, d, 2, api.InodeFile, 1, l[1])
		wantSound(t, d)
		wantLeft(t, d, 29, 6-(len(l[1])+31)/32)
	}
	d := house(t, 40)
	wantMake(t, d, 40, api.EEXIST, folder("/d"), folder("/d"))
	wantMake(t, d, 40, api.EEXIST, folder("/d"), folder("d/"))
	wantMake(t, d, 40, api.EEXIST, file("/d", ""), folder("/d"))
	wantMake(t, d, 40, api.EISDIR, folder("/d"), file("/d", ""))
	wantMake(t, d, 40, api.EISDIR, folder("/d"), file("/d", strings.Repeat("x", 193)))
}

// The first error is told; a directory must come ahead of what is in it.
func TestMakeErrors(t *testing.T) {
	d := house(t, 40)
	wantMake(t, d, 40, api.ENOENT, file("/d/f", "x"), folder("/d"))
	wantMake(t, d, 40, api.ENOENT, folder("/d/e"), folder("/d"))
	wantMake(t, d, 40, api.ENOENT, folder("/d"), folder("/d/e"), file("/d/g/f", "x"), folder("/d/g"))
	wantMake(t, d, 40, api.ENOTDIR, file("/d", "x"), file("/d/f", "x"), folder("/no/no"))
	wantMake(t, d, 40, api.ENOTDIR, file("/d", "x"), folder("/d/f"), folder("/d"))
	wantMake(t, d, 40, api.EEXIST, folder("/d"), folder("/d"), file("/no/f", ""))
	wantMake(t, d, 40, api.ENOENT, folder("/no/f"), folder("/d"), folder("/d"))
	for _, w := range parentErrors() {
		tree := fscore.Tree(d)
		wantMake(t, d, 40, w.e, append(tree, folder(w.path), folder("/123456789"))...)
		wantMake(t, d, 40, w.e, append(tree, file(w.path, ""), folder("/no/no"))...)
		wantMake(t, d, 40, w.e, append(tree, file(w.path, strings.Repeat("x", 200)))...)
	}
}

// As many nodes as there are inodes, and one more.
func TestMakeOfManyNodes(t *testing.T) {
	var tree []api.Node
	for n := range 21 {
		tree = append(tree, folder("/"+strconv.Itoa(100+n)))
	}
	for n := range 10 {
		tree = append(tree, file("/100/"+strconv.Itoa(n), strconv.Itoa(n)))
	}
	d := house(t, 60)
	wantMake(t, d, 60, api.ENOSPC, append(tree, file("/101/x", ""))...)
	wantMake(t, d, 60, api.ENOSPC, append(tree, folder("/101/x"))...)
	wantMake(t, d, 60, api.ENOSPC, append(slices.Clone(tree[:21]), folder("/x"))...)
	wantMake(t, d, 60, api.OK, tree...)
	slices.SortFunc(tree, func(a, b api.Node) int { return slices.Compare(parts(a), parts(b)) })
	wantTree(t, d, tree...)
	wantLeft(t, d, 0, 60-12-6-3-10)
	wantSound(t, d)
}

func parts(x api.Node) []string {
	return strings.Split(x.Path, "/")
}

// As many blocks as are needed, and one fewer.
func TestMakeOfFewBlocks(t *testing.T) {
	tree := []api.Node{folder("/d"), folder("/d/e"), file("/d/e/f", strings.Repeat("f", 33)), file("/d/g", ""), file("/h", strings.Repeat("h", 192))}
	need := 1 + 1 + 1 + 2 + 6
	for count := 13; count < 12+need; count++ {
		wantMake(t, house(t, 60), count, api.ENOSPC, tree...)
	}
	for _, count := range []int{12 + need, 13 + need} {
		d := house(t, 60)
		wantMake(t, d, count, api.OK, tree...)
		wantTree(t, d, tree...)
		wantLeft(t, d, 26, count-12-need)
	}
}

// A disk that has fewer blocks than it is said to have is laid as far as they go.
func TestMakeOfMoreBlocksThanThereAre(t *testing.T) {
	d := blocks.New(14)
	wantMake(t, d, 60, api.OK, file("/f", "x"))
	wantTree(t, d, file("/f", "x"))
	wantMkdir(t, d, "/d", api.OK)
	wantCreate(t, d, "/d/f", 0, api.ENOSPC)
	wantRename(t, d, "/f", "/d/f", nil, api.ENOSPC)
	wantMake(t, d, 60, api.ErrArg, file("/f", strings.Repeat("x", 33)))
	wantTree(t, d, folder("/d"), file("/f", "x"))
}

// 17.3: Tree

// Names are ordered byte by byte; all of a directory comes ahead of a name that its own begins.
func TestTreeOrder(t *testing.T) {
	names := []string{"\x01", " ", "!", "-", ".", "..", "0", "A", "B", "a", "a!", "a.", "aa", "ab", "b", "\x7f", "\x80", "\xc3\xa9", "\xfe", "\xff", "\xff\xff"}
	var want []api.Node
	for _, name := range names {
		want = append(want, file("/"+name, name))
	}
	d := made(t, 60, reversed(want)...)
	wantTree(t, d, want...)
	want = []api.Node{
		folder("/a"), file("/a/!", "1"), folder("/a/a"), file("/a/a/z", "2"), file("/a/a ", "3"), file("/a/ab", "4"), file("/a/\xff", "5"),
		file("/a ", "6"), file("/a!", "7"), folder("/a."), file("/a./a", "8"), folder("/aa"), file("/aa/a", "9"), file("/b", "0"), folder("/\x80"), file("/\x80/x", "x"),
	}
	d = made(t, 60, folders(reversed(want))...)
	wantTree(t, d, want...)
}

func reversed(l []api.Node) []api.Node {
	l = slices.Clone(l)
	slices.Reverse(l)
	return l
}

// folders is the nodes with all directories ahead, the shorter paths first: an order that Make can make.
func folders(l []api.Node) []api.Node {
	l = slices.Clone(l)
	slices.SortStableFunc(l, func(a, b api.Node) int {
		switch {
		case a.Dir != b.Dir && a.Dir:
			return -1
		case a.Dir != b.Dir:
			return 1
		case a.Dir:
			return len(a.Path) - len(b.Path)
		}
		return 0
	})
	return l
}

// A file with two names is told twice, one without a name not at all.
func TestTreeOfLinks(t *testing.T) {
	d := made(t, 40, folder("/d"), file("/d/f", "f"), file("/g", "g"))
	wantLink(t, d, "/d/f", "/a", api.OK)
	wantLink(t, d, "/a", "/d/z", api.OK)
	wantUnlink(t, d, "/g", []int{3}, api.OK)
	wantTree(t, d, file("/a", "f"), folder("/d"), file("/d/f", "f"), file("/d/z", "f"))
	wantSame(t, d, "Tree", func() { fscore.Tree(d) })
}

// 17.4

// grown is a tree that can be made, in Tree's order.
func grown(d *dice, nodes int) []api.Node {
	names := []string{"a", "b", "ab", "a!", "a.", "\xff", "\x80\x80", "é", "12345678", "/", ".", "z"}
	paths := map[string]api.Node{"": folder("")}
	dirs := []string{""}
	for range nodes {
		path := dirs[d.roll(len(dirs))] + "/" + names[d.roll(len(names))]
		if _, there := paths[path]; there || len(path) > 32 || strings.Contains(path, "//") {
			continue
		}
		if d.roll(2) == 0 {
			paths[path] = folder(path)
			dirs = append(dirs, path)
			continue
		}
		paths[path] = file(path, d.text([]int{0, 1, 5, 32, 33, 192}[d.roll(6)]))
	}
	delete(paths, "")
	var l []api.Node
	for _, x := range paths {
		l = append(l, x)
	}
	slices.SortFunc(l, func(a, b api.Node) int { return slices.Compare(parts(a), parts(b)) })
	return l
}

func TestThereAndBack(t *testing.T) {
	d := &dice{41}
	for n := range 300 {
		tree := grown(d, n%32)
		s := made(t, 1024, tree...)
		wantTree(t, s, tree...)
		wantSound(t, s)
		again := fscore.Tree(s)
		other := made(t, 300, again...)
		wantTree(t, other, tree...)
		wantMake(t, s, 1024, api.OK, folders(reversed(tree))...)
		wantTree(t, s, tree...)
		wantSound(t, other)
	}
}
