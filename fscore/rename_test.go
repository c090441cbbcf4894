package fscore_test

import (
	"slices"
	"strconv"
	"testing"

	"janus/api"
	"janus/dir"
	"janus/fscore"
	"janus/inode"
)

// 17.2: what is named moves, with its bytes and links; the new name is its directory's last one.
func TestRename(t *testing.T) {
	type names map[int][]string
	for _, c := range []struct {
		from, to string
		what     int
		want     names
	}{
		{"/top", "/new", topFile, names{rootDir: {"a", "empty", "new"}}},
		{"/a", "/new", aDir, names{rootDir: {"empty", "top", "new"}, aDir: {"b", "y"}}},
		{"/empty", "/new", emptyDir, names{rootDir: {"a", "top", "new"}, emptyDir: nil}},
		{"/a/b", "/a/new", bDir, names{aDir: {"y", "new"}, bDir: {"c"}}},
		{"/a/y", "/a/Y", yFile, names{aDir: {"b", "Y"}}},
		{"/top", "/a/top", topFile, names{rootDir: {"a", "empty"}, aDir: {"b", "y", "top"}}},
		{"/top", "/empty/new", topFile, names{rootDir: {"a", "empty"}, emptyDir: {"new"}}},
		{"/a/b/c/x", "/new", xFile, names{rootDir: {"a", "empty", "top", "new"}, cDir: nil}},
		{"/a/b/c/x", "/a/b/x", xFile, names{bDir: {"c", "x"}, cDir: nil}},
		{"/a/y", "/a/b/c/y", yFile, names{aDir: {"b"}, cDir: {"x", "y"}}},
		{"/a", "/empty/a", aDir, names{rootDir: {"empty", "top"}, emptyDir: {"a"}, aDir: {"b", "y"}}},
		{"/empty", "/a/b/c/new", emptyDir, names{rootDir: {"a", "top"}, cDir: {"x", "new"}}},
		{"/a/b/c", "/c", cDir, names{rootDir: {"a", "empty", "top", "c"}, bDir: nil, cDir: {"x"}}},
		{"/a/b", "/empty/b", bDir, names{aDir: {"y"}, emptyDir: {"b"}, bDir: {"c"}}},
		{"a//b/", "//empty//ab/", bDir, names{aDir: {"y"}, emptyDir: {"ab"}}},
	} {
		d := house(t, 40)
		var was [32]api.Inode
		for i := range was {
			was[i], _ = inode.Get(d, i)
		}
		wantRename(t, d, c.from, c.to, []int{c.what}, api.OK)
		for i := range was {
			want, moved := c.want[i]
			if moved {
				wantNames(t, d, i, want...)
				continue
			}
			if x, _ := inode.Get(d, i); x != was[i] {
				t.Errorf("Rename(%s, %s): inode %d is %v, was %v", c.from, c.to, i, x, was[i])
			}
		}
		if i, e := dir.Walk(d, c.to); i != c.what || e != api.OK {
			t.Errorf("Rename(%s, %s): Walk of it = %d, %d", c.from, c.to, i, e)
		}
		if _, e := dir.Walk(d, c.from); e != api.ENOENT {
			t.Errorf("Rename(%s, %s): Walk of the old one = %d", c.from, c.to, e)
		}
		wantSound(t, d)
	}
}

// The order of the others stays, whichever name it is.
func TestRenameLeavesTheOthers(t *testing.T) {
	for n := 1; n <= 21; n++ {
		for k := range n {
			d := made(t, 60, file("/top", "t"), folder("/d"), folder("/e"), folder("/e/e"))
			crowd(t, d, "/d", n)
			names, to := dir.List(d, 2)
			other := copied(d)
			_, blocks := inode.Left(d)
			wantRename(t, d, "/d/n"+strconv.Itoa(k), "/d/new", nil, api.OK)
			rest := slices.Delete(names, k, k+1)
			wantNames(t, d, 2, append(slices.Clone(rest), "new")...)
			if _, got := dir.List(d, 2); !slices.Equal(got, to) {
				t.Errorf("%d, want %d", got, to)
			}
			wantLeft(t, d, 27, blocks)
			wantRename(t, other, "/d/n"+strconv.Itoa(k), "/e/new", nil, api.OK)
			wantNames(t, other, 2, rest...)
			wantNames(t, other, 3, "e", "new")
			for _, x := range []int{1, 2, 3, 4} {
				links := 1
				if x == 1 {
					links = n + 1
				}
				if got, _ := inode.Get(other, x); got.Links != links {
					t.Errorf("inode %d has %d links, want %d", x, got.Links, links)
				}
			}
			wantSound(t, d)
			wantSound(t, other)
		}
	}
}

// 17.2: to's name is there

func TestRenameToTheSameInode(t *testing.T) {
	d := house(t, 40)
	wantLink(t, d, "/top", "/a/also", api.OK)
	wantLink(t, d, "/top", "/third", api.OK)
	for _, open := range [][]int{nil, {topFile}, {aDir}} {
		for _, c := range [][2]string{
			{"/top", "/top"}, {"/top", "//top/"}, {"/a/y", "a/y"}, {"/top", "/a/also"}, {"/a/also", "/top"}, {"/top", "/third"}, {"/third", "/top"},
			{"/a", "/a"}, {"/a/b", "/a//b/"}, {"/a/b/c", "/a/b/c"}, {"/empty", "/empty"}, {"/a/b/c/x", "/a/b/c/x"},
		} {
			wantSame(t, d, "Rename("+c[0]+", "+c[1]+")", func() { wantRename(t, d, c[0], c[1], open, api.OK) })
		}
	}
	wantNode(t, d, topFile, api.InodeFile, 3, "the top")
}

func TestRenameToAnotherFile(t *testing.T) {
	for _, open := range [][]int{nil, {yFile}, {topFile, yFile, yFile}, {topFile}, {-1, 32}} {
		for _, links := range []int{1, 2} {
			d := house(t, 40)
			if links == 2 {
				wantLink(t, d, "/a/y", "/a/b/also", api.OK)
			}
			wantRename(t, d, "/top", "/a/y", open, api.OK)
			wantNames(t, d, rootDir, "a", "empty")
			wantNames(t, d, aDir, "b", "y")
			wantNode(t, d, topFile, api.InodeFile, 1, "the top")
			if i, _ := dir.Walk(d, "/a/y"); i != topFile {
				t.Errorf("/a/y is %d", i)
			}
			switch {
			case links == 2:
				wantNode(t, d, yFile, api.InodeFile, 1, "y")
				wantLeft(t, d, 24, 20)
			case slices.Contains(open, yFile):
				wantNode(t, d, yFile, api.InodeFile, 0, "y")
				wantLeft(t, d, 24, 20)
				fscore.Close(d, yFile)
				wantLeft(t, d, 25, 21)
			default:
				wantFree(t, d, yFile)
				wantLeft(t, d, 25, 21)
			}
			wantSound(t, d)
		}
	}
}

// In one directory both entries go, and the new one is the last.
func TestRenameToAnotherFileBeside(t *testing.T) {
	for n := 2; n <= 21; n++ {
		for _, ends := range [][2]int{{0, 1}, {1, 0}, {0, n - 1}, {n - 1, 0}, {n / 2, 0}, {n / 2, n - 1}} {
			if ends[0] == ends[1] {
				continue
			}
			d := made(t, 1024, folder("/d"))
			var names []string
			for k := range n {
				names = append(names, "f"+strconv.Itoa(k))
				wantCreate(t, d, "/d/"+names[k], k+2, api.OK)
				wantErr(t, "Write", inode.Write(d, k+2, 0, names[k]), api.OK)
			}
			from, to := names[ends[0]], names[ends[1]]
			wantRename(t, d, "/d/"+from, "/d/"+to, nil, api.OK)
			rest := slices.DeleteFunc(names, func(x string) bool { return x == from || x == to })
			wantNames(t, d, 1, append(rest, to)...)
			wantNode(t, d, ends[0]+2, api.InodeFile, 1, from)
			wantFree(t, d, ends[1]+2)
			wantSound(t, d)
		}
	}
}

// Without a block or an inode left, a file can take another one's place, wherever it is.
func TestRenameToAnotherFileOnAFullDisk(t *testing.T) {
	for n := 1; n <= 21; n++ {
		for _, open := range [][]int{nil, {2}} {
			d := made(t, 60, file("/top", "t"), file("/old", "o"), file("/new", "n"), folder("/d"))
			crowd(t, d, "/d", n-1)
			wantRename(t, d, "/old", "/d/old", nil, api.OK)
			leaveBlocks(t, d, 0)
			leaveInodes(t, d, 0)
			wantRename(t, d, "/new", "/d/old", open, api.OK)
			if i := dir.Find(d, 4, "old"); i != 3 {
				t.Errorf("it is %d", i)
			}
		}
	}
}

func TestRenameErrors(t *testing.T) {
	d := house(t, 40)
	for _, c := range [][2]string{
		{"/top", "/a"}, {"/top", "/empty"}, {"/a/y", "/a/b"}, {"/a", "/top"}, {"/empty", "/top"}, {"/a", "/empty"}, {"/empty", "/a"}, {"/a/b", "/a/y"},
		{"/a/b/c", "/a/b"}, {"/a/b/c/x", "/a/b/c"}, {"/a/b/c/x", "/a"}, {"/empty", "/a/b/c/x"}, {"/a/b", "/a"}, {"/a/b/c", "/a"},
	} {
		wantRename(t, d, c[0], c[1], nil, api.EEXIST)
		wantRename(t, d, c[0], c[1], []int{0, 1, 2, 3, 4, 5, 6, 7}, api.EEXIST)
	}
	for _, c := range [][2]string{
		{"/a", "/a/new"}, {"/a", "/a/b/new"}, {"/a", "/a/b/c/new"}, {"/a/b", "/a/b/new"}, {"/a/b", "/a/b/c/new"}, {"/a/b/c", "/a/b/c/c"}, {"/empty", "/empty/x"},
		{"/a", "/a/y"}, {"/a", "/a/b"}, {"/a", "/a/b/c/x"}, {"/a/b", "/a/b/c"}, {"/a/b", "/a/b/c/x"}, {"a", "//a//a"},
	} {
		wantRename(t, d, c[0], c[1], nil, api.EINVAL)
	}
}

// A directory far up is below itself, however deep the path goes.
func TestRenameFarBelow(t *testing.T) {
	path := ""
	var paths []string
	var tree []api.Node
	for range 15 {
		path += "/d"
		paths = append(paths, path)
		tree = append(tree, folder(path))
	}
	d := made(t, 60, tree...)
	for k, from := range paths {
		for _, to := range paths[k:] {
			wantRename(t, d, from, to+"/x", nil, api.EINVAL)
		}
		for j, to := range paths[:k] {
			n := copied(d)
			wantRename(t, n, from, to+"/x", nil, api.OK)
			wantSound(t, n)
			if j < k-1 {
				wantRename(t, d, from, to, nil, api.EEXIST)
			}
		}
	}
}

// By Renames a tree may be deeper than a path is long; it is told whole, and can be got at again.
func TestDeeperThanAPath(t *testing.T) {
	path := ""
	var tree []api.Node
	for range 15 {
		path += "/d"
		tree = append(tree, folder(path))
	}
	d := made(t, 60, append(tree, folder("/12345678"), folder("/12345678/12345678"), folder("/12345678/12345678/12345678"), file("/d/d/f", "deep"))...)
	wantRename(t, d, "/d", "/12345678/12345678/12345678/d", nil, api.OK)
	wantSound(t, d)
	l := fscore.Tree(d)
	deepest := "/12345678/12345678/12345678" + path
	if len(l) != 19 || !slices.Contains(l, folder(deepest)) || !slices.Contains(l, file("/12345678/12345678/12345678/d/d/f", "deep")) {
		t.Fatalf("%+v", l)
	}
	wantErr(t, "Make", fscore.Make(d, 60, l), api.ENAMETOOLONG)
	wantRename(t, d, "/12345678/12345678/12345678/d", "/d", nil, api.OK)
	wantRename(t, d, "/12345678", "/d/d/d/d/d/d/d/d/d/d/d/d/d/d/d/8", nil, api.OK)
	wantSound(t, d)
}

// Which error is told, where there are several: from's ahead of to's.
func TestRenameErrorsInTheirOrder(t *testing.T) {
	d := house(t, 40)
	tos := append(parentErrors(), wrong{"/top", 0}, wrong{"/a", 0}, wrong{"/new", 0})
	froms := append(parentErrors(), wrong{"/no", api.ENOENT}, wrong{"/a/no", api.ENOENT}, wrong{"/empty/x", api.ENOENT}, wrong{"/a/b/c/no", api.ENOENT})
	for _, from := range froms {
		for _, to := range tos {
			wantRename(t, d, from.path, to.path, nil, from.e)
		}
	}
	for _, from := range []string{"/top", "/a", "/empty", "/a/b/c/x"} {
		for _, to := range parentErrors() {
			wantRename(t, d, from, to.path, nil, to.e)
		}
	}
	wantRename(t, d, "/a", "/a/no/x", nil, api.ENOENT)
	wantRename(t, d, "/a", "/a/y/x", nil, api.ENOTDIR)
	wantRename(t, d, "/a", "/", nil, api.EINVAL)
	crowd(t, d, "/empty", 21)
	leaveBlocks(t, d, 0)
	wantRename(t, d, "/empty", "/empty/new", nil, api.EINVAL)
	wantRename(t, d, "/a", "/empty/n3", nil, api.EEXIST)
	wantRename(t, d, "/top", "/empty/n3", nil, api.OK) // another name of its own
	wantRename(t, d, "/a", "/empty/new", nil, api.ENOSPC)
	wantRename(t, d, "/top", "/empty/new", nil, api.ENOSPC)
	wantRename(t, d, "/no", "/empty/new", nil, api.ENOENT)
}

// 17.2: want of space

func TestRenameToTwentyOneEntries(t *testing.T) {
	for _, from := range []string{"/top", "/a", "/a/b/c/x", "/a/b"} {
		for _, n := range []int{20, 21} {
			d := house(t, 60)
			crowd(t, d, "/empty", n)
			if n == 21 {
				wantRename(t, d, from, "/empty/new", nil, api.ENOSPC)
				wantRename(t, d, "/empty/n0", "/empty/new", nil, api.OK)
				wantRename(t, d, "/a/y", "/empty/n20", nil, api.OK)
				wantRename(t, d, from, "/empty/newer", nil, api.ENOSPC)
				wantRename(t, d, "/empty/n7", "/a/n7", nil, api.OK)
			}
			wantRename(t, d, from, "/empty/new2", nil, api.OK)
			names, _ := dir.List(d, emptyDir)
			if len(names) != 21 || names[20] != "new2" {
				t.Errorf("%q", names)
			}
			wantSound(t, d)
		}
	}
}

// At each length that to's directory may have, with a block left and without. What from's directory
// gives back is not left yet.
func TestRenameBlocksLeft(t *testing.T) {
	for n := range 21 {
		for m := 1; m <= 21; m++ {
			for left := range 2 {
				d := made(t, 60, file("/top", "t"), folder("/d"), folder("/e"))
				crowd(t, d, "/d", n)
				crowd(t, d, "/e", m)
				leaveBlocks(t, d, left)
				e := api.OK
				if left == 0 && grows(n) {
					e = api.ENOSPC
				}
				wantRename(t, d, "/e/n0", "/d/new", nil, e)
				if e != api.OK {
					continue
				}
				want := left
				if grows(n) {
					want--
				}
				if grows(m - 1) {
					want++
				}
				if _, got := inode.Left(d); got != want {
					t.Fatalf("from %d to %d entries: %d blocks are left of %d, want %d", m, n, got, left, want)
				}
			}
		}
	}
}

// Within a directory it needs no block.
func TestRenameBesideOnAFullDisk(t *testing.T) {
	for n := 1; n <= 21; n++ {
		d := made(t, 60, file("/top", "t"), folder("/d"))
		crowd(t, d, "/d", n)
		leaveBlocks(t, d, 0)
		leaveInodes(t, d, 0)
		wantRename(t, d, "/d/n0", "/d/new", nil, api.OK)
		names, _ := dir.List(d, 2)
		if len(names) != n || names[n-1] != "new" {
			t.Errorf("%q", names)
		}
		wantLeft(t, d, 0, 0)
	}
}
