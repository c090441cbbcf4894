package dir_test

import (
	"math"
	"slices"
	"strconv"
	"strings"
	"testing"

	"janus/api"
	"janus/blocks"
	"janus/dir"
	"janus/inode"
)

// The inodes of small's disk.
const (
	rootDir = 0
	aFile   = 1
	aDir    = 2
	bDir    = 3
	noInode = 9 // is not in use
)

// small is a disk with an empty root, a file of 40 bytes and two empty directories on it, none of them named.
func small(t *testing.T, count int) *blocks.Disk {
	t.Helper()
	d := blocks.New(count)
	wantErr(t, "Format", inode.Format(d, count), api.OK)
	for _, kind := range []int{api.InodeFile, api.InodeDir, api.InodeDir} {
		if _, e := inode.Alloc(d, kind); e != api.OK {
			t.Fatalf("Alloc = %d", e)
		}
	}
	wantErr(t, "Write", inode.Write(d, aFile, 0, fileText), api.OK)
	return d
}

var fileText = strings.Repeat("file", 10)

// far is numbers that are no inode's, on both sides.
func far() []int {
	return []int{-1, -2, -9, -32, -1 << 32, -1<<32 + 1, math.MinInt, math.MinInt + 1, 32, 33, 63, 64, 96, 255, 256, 257, 512, 1 << 32, 1<<32 + 1, math.MaxInt - 1, math.MaxInt}
}

// snap is all words of a disk.
func snap(d *blocks.Disk) []uint64 {
	var l []uint64
	for b := range d.Len() {
		words, _ := d.Get(b)
		l = append(l, words...)
	}
	return l
}

// wantSame does what is told, and asks that no word of the disk is changed by it.
func wantSame(t *testing.T, d *blocks.Disk, what string, do func()) {
	t.Helper()
	was := snap(d)
	do()
	if !slices.Equal(snap(d), was) {
		t.Fatalf("%s changed the disk", what)
	}
}

func wantErr(t *testing.T, what string, got, want api.Errno) {
	t.Helper()
	if got != want {
		t.Fatalf("%s = %d, want %d", what, got, want)
	}
}

// wantAdd asks for what an Add answers; behind an error nothing is changed.
func wantAdd(t *testing.T, d *blocks.Disk, i int, name string, to int, want api.Errno) {
	t.Helper()
	was := snap(d)
	if e := dir.Add(d, i, name, to); e != want {
		t.Fatalf("Add(%d, %q, %d) = %d, want %d", i, name, to, e, want)
	}
	if want != api.OK && !slices.Equal(snap(d), was) {
		t.Fatalf("Add(%d, %q, %d) = %d changed the disk", i, name, to, want)
	}
}

func wantRemove(t *testing.T, d *blocks.Disk, i int, name string, want api.Errno) {
	t.Helper()
	was := snap(d)
	if e := dir.Remove(d, i, name); e != want {
		t.Fatalf("Remove(%d, %q) = %d, want %d", i, name, e, want)
	}
	if want != api.OK && !slices.Equal(snap(d), was) {
		t.Fatalf("Remove(%d, %q) = %d changed the disk", i, name, want)
	}
}

// row is an entry, as a test tells it.
type row struct {
	name string
	to   int
}

// wantRows asks for a directory's entries, one by one, for their bytes and for its Size.
func wantRows(t *testing.T, s api.Store, i int, want ...row) {
	t.Helper()
	var names []string
	var to []int
	var data []byte
	for _, x := range want {
		names = append(names, x.name)
		to = append(to, x.to)
		entry := make([]byte, 9)
		copy(entry, x.name)
		entry[8] = byte(x.to)
		data = append(data, entry...)
		if got := dir.Find(s, i, x.name); got != x.to {
			t.Fatalf("Find(%d, %q) = %d, want %d", i, x.name, got, x.to)
		}
	}
	if n, l := dir.List(s, i); !slices.Equal(n, names) || !slices.Equal(l, to) {
		t.Fatalf("List(%d) = %q, %d, want %q, %d", i, n, l, names, to)
	}
	if got, e := inode.Read(s, i, 0, 192); got != string(data) || e != api.OK {
		t.Fatalf("the data of %d is %q, %d, want %q", i, got, e, data)
	}
	x, _ := inode.Get(s, i)
	used := 0
	for _, b := range x.Blocks {
		if b != 0 {
			used++
		}
	}
	if x.Size != len(data) || used != (len(data)+31)/32 || x.Kind != api.InodeDir {
		t.Fatalf("inode %d is %v", i, x)
	}
}

// wantNone asks that there is nothing of that name.
func wantNone(t *testing.T, s api.Store, i int, names ...string) {
	t.Helper()
	for _, name := range names {
		if got := dir.Find(s, i, name); got != -1 {
			t.Fatalf("Find(%d, %q) = %d, want -1", i, name, got)
		}
	}
}

func wantWalk(t *testing.T, s api.Store, path string, want int, e api.Errno) {
	t.Helper()
	if got, err := dir.Walk(s, path); got != want || err != e {
		t.Fatalf("Walk(%q) = %d, %d, want %d, %d", path, got, err, want, e)
	}
}

func wantParent(t *testing.T, s api.Store, path string, want int, name string, e api.Errno) {
	t.Helper()
	if got, n, err := dir.Parent(s, path); got != want || n != name || err != e {
		t.Fatalf("Parent(%q) = %d, %q, %d, want %d, %q, %d", path, got, n, err, want, name, e)
	}
}

// The chapter's examples.
func TestExample(t *testing.T) {
	wantSplit(t, "//a/b/", []string{"a", "b"}, api.OK)
	d := small(t, 20)
	wantAdd(t, d, 0, "a", 1, api.OK)
	wantWalk(t, d, "/a", 1, api.OK)
	wantWalk(t, d, "/a/b", 0, api.ENOTDIR)
	wantParent(t, d, "/x/y", 0, "", api.ENOENT)
}

// 16.1: names

func goodNames() []string {
	return []string{
		"a", "ab", "1234567", "12345678", ".", "..", " ", "        ", "\x01", "\x7f", "\x80", "\xff", "\xff\xff\xff\xff\xff\xff\xff\xff",
		"é", "ééèè", "€€ab", "😀😀", "\xe2\x82", "\xe2", "a\xe2", "\xc0\xaf", "\xc0\x80", "\ufffd", "\\", "a\nb", "A",
	}
}

func badNames() []string {
	return []string{
		"", "123456789", "€€€", strings.Repeat("x", 1000), "\x00", "a\x00", "\x00a", "a\x00b", "1234567\x00", "12345678\x00", "\x00\x00\x00\x00\x00\x00\x00\x00",
		"/", "a/", "/a", "a/b", "1234567/", "12345678/", "/\x00", "\xe2/", "\xe2\x82/", "\xff\x00", "\xe2\x82\x00", "é/", "//",
	}
}

func TestAddOfNames(t *testing.T) {
	for _, i := range []int{rootDir, aDir} {
		for _, name := range goodNames() {
			d := small(t, 20)
			wantNone(t, d, i, name)
			wantAdd(t, d, i, name, 31, api.OK)
			wantRows(t, d, i, row{name, 31})
			wantRemove(t, d, i, name, api.OK)
			wantRows(t, d, i)
			wantNone(t, d, i, name)
		}
		d := small(t, 20)
		wantAdd(t, d, i, "a", 5, api.OK)
		for _, name := range badNames() {
			wantAdd(t, d, i, name, 5, api.EINVAL)
			wantNone(t, d, i, name)
			wantRemove(t, d, i, name, api.ENOENT)
		}
		wantRows(t, d, i, row{"a", 5})
	}
}

// All the names that may be are there side by side, each with its own bytes.
func TestNamesSideBySide(t *testing.T) {
	d := small(t, 40)
	var want []row
	for k, name := range goodNames() {
		if len(want) == 21 {
			wantAdd(t, d, rootDir, name, k, api.ENOSPC)
			continue
		}
		wantAdd(t, d, rootDir, name, k, api.OK)
		want = append(want, row{name, k})
		wantRows(t, d, rootDir, want...)
	}
}

// Names that begin alike, or differ only in case, in a mark or by what lies behind their end.
func TestNamesAlike(t *testing.T) {
	d := small(t, 20)
	wantAdd(t, d, aDir, "ab", 1, api.OK)
	wantNone(t, d, aDir, "a", "b", "abc", "ab\x00", "ab\x00\x00\x00\x00\x00\x00", "\x00ab", "AB", "Ab", "ab ", " ab", "ab/", "/ab", "", "ab\x00\x00\x00\x00\x00\x00\x01")
	for _, name := range []string{"a", "b", "abc", "AB", "ab ", "ab\xff"} {
		wantRemove(t, d, aDir, name, api.ENOENT)
	}
	wantAdd(t, d, aDir, "a", 2, api.OK)
	wantAdd(t, d, aDir, "abc", 3, api.OK)
	wantAdd(t, d, aDir, "abcdefgh", 4, api.OK)
	wantAdd(t, d, aDir, "abcdefg", 5, api.OK)
	wantAdd(t, d, aDir, "\u00e9", 6, api.OK)
	wantAdd(t, d, aDir, "e\u0301", 7, api.OK)
	wantAdd(t, d, aDir, "\ufffd", 8, api.OK)
	wantAdd(t, d, aDir, "\xff", 9, api.OK)
	wantAdd(t, d, aDir, "\xfe", 10, api.OK)
	wantRows(t, d, aDir, row{"ab", 1}, row{"a", 2}, row{"abc", 3}, row{"abcdefgh", 4}, row{"abcdefg", 5}, row{"\u00e9", 6}, row{"e\u0301", 7}, row{"\ufffd", 8}, row{"\xff", 9}, row{"\xfe", 10})
	wantNone(t, d, aDir, "abcdefghi", "abcdef", "\xfd", "e")
	wantRemove(t, d, aDir, "ab", api.OK)
	wantRemove(t, d, aDir, "abcdefgh", api.OK)
	wantRemove(t, d, aDir, "\ufffd", api.OK)
	wantRows(t, d, aDir, row{"a", 2}, row{"abc", 3}, row{"abcdefg", 5}, row{"\u00e9", 6}, row{"e\u0301", 7}, row{"\xff", 9}, row{"\xfe", 10})
}

// 16.1: numbers of inodes

func TestAddOfInodes(t *testing.T) {
	d := small(t, 30)
	for to := range 21 {
		wantAdd(t, d, rootDir, "n"+strconv.Itoa(to), to, api.OK)
		if got := dir.Find(d, rootDir, "n"+strconv.Itoa(to)); got != to {
			t.Fatalf("Find = %d, want %d", got, to)
		}
	}
	for to := 21; to < 32; to++ {
		wantAdd(t, d, aDir, "n"+strconv.Itoa(to), to, api.OK)
		if got := dir.Find(d, aDir, "n"+strconv.Itoa(to)); got != to {
			t.Fatalf("Find = %d, want %d", got, to)
		}
	}
	for _, to := range far() {
		wantAdd(t, d, bDir, "x", to, api.EINVAL)
	}
	wantRows(t, d, bDir)
}

// Many names may name one inode, in use or not; neither it nor what is in it changes.
func TestAddLeavesWhatItNames(t *testing.T) {
	d := small(t, 20)
	for k, to := range []int{aFile, aFile, aDir, rootDir, noInode, 31} {
		was, _ := inode.Get(d, to)
		wantAdd(t, d, bDir, string([]byte{byte('a' + k)}), to, api.OK)
		if got, _ := inode.Get(d, to); got != was {
			t.Fatalf("inode %d is %v, want %v", to, got, was)
		}
	}
	wantRows(t, d, bDir, row{"a", aFile}, row{"b", aFile}, row{"c", aDir}, row{"d", rootDir}, row{"e", noInode}, row{"f", 31})
	for _, name := range []string{"b", "d", "a"} {
		wantRemove(t, d, bDir, name, api.OK)
	}
	wantRows(t, d, bDir, row{"c", aDir}, row{"e", noInode}, row{"f", 31})
	if text, _ := inode.Read(d, aFile, 0, 192); text != fileText {
		t.Errorf("the file is %q", text)
	}
}

// A directory's own record has its links still, whatever is in it.
func TestAddLeavesLinks(t *testing.T) {
	d := small(t, 20)
	x, _ := inode.Get(d, aDir)
	x.Links = 5
	wantErr(t, "Put", inode.Put(d, aDir, x), api.OK)
	wantAdd(t, d, aDir, "a", aFile, api.OK)
	wantAdd(t, d, aDir, "b", aDir, api.OK)
	wantRemove(t, d, aDir, "a", api.OK)
	if x, _ := inode.Get(d, aDir); x != (api.Inode{Kind: api.InodeDir, Links: 5, Size: 9, Blocks: [6]int{14}}) {
		t.Errorf("%v", x)
	}
	if a, b := inode.Left(d); a != 28 || b != 5 {
		t.Errorf("Left = %d, %d", a, b)
	}
}

// 16.1: what is no directory

func TestWhatIsNoDirectory(t *testing.T) {
	d := small(t, 20)
	other, _ := inode.Alloc(d, 3)
	like := "like\x00\x00\x00\x00\x01" // a file's bytes that an entry could have
	wantErr(t, "Write", inode.Write(d, aFile, 0, like), api.OK)
	wantErr(t, "Write", inode.Write(d, other, 0, like), api.OK)
	wantErr(t, "Write", inode.Write(d, noInode, 0, like), api.OK)
	for _, i := range append(far(), aFile, other, noInode, 31) {
		wantSame(t, d, "a call on "+strconv.Itoa(i), func() {
			if n, l := dir.List(d, i); len(n) != 0 || len(l) != 0 {
				t.Errorf("List(%d) = %q, %d", i, n, l)
			}
			wantNone(t, d, i, "like", "", "a")
			wantAdd(t, d, i, "a", 1, api.ENOTDIR)
			wantAdd(t, d, i, "like", 1, api.ENOTDIR)
			wantRemove(t, d, i, "like", api.ENOTDIR)
			wantRemove(t, d, i, "a", api.ENOTDIR)
			wantRemove(t, d, i, "", api.ENOTDIR)
		})
	}
}

// 16.1: which error, where there are several

func TestAddErrorsInTheirOrder(t *testing.T) {
	d := small(t, 20)
	for _, i := range []int{-1, 32, aFile, noInode} {
		for _, name := range badNames() {
			for _, to := range []int{-1, 0, 31, 32} {
				wantAdd(t, d, i, name, to, api.ENOTDIR)
			}
		}
	}
	wantAdd(t, d, aDir, "there", 4, api.OK)
	for _, to := range far() {
		wantAdd(t, d, aDir, "there", to, api.EINVAL)
		wantAdd(t, d, aDir, "", to, api.EINVAL)
	}
	wantAdd(t, d, aDir, "there", 4, api.EEXIST)
	wantAdd(t, d, aDir, "there", 5, api.EEXIST)
	full(t, d, aDir)
	wantAdd(t, d, aDir, "there", 5, api.EEXIST)
	wantAdd(t, d, aDir, "there", 32, api.EINVAL)
	wantAdd(t, d, aDir, "", 5, api.EINVAL)
	wantAdd(t, d, aDir, "other", -1, api.EINVAL)
	wantAdd(t, d, aDir, "other", 5, api.ENOSPC)
}

// full adds entries until there are 21.
func full(t *testing.T, d *blocks.Disk, i int) {
	t.Helper()
	names, _ := dir.List(d, i)
	for n := len(names); n < 21; n++ {
		wantAdd(t, d, i, "full"+strconv.Itoa(n), n, api.OK)
	}
}

// 16.1: 21 entries

func TestTwentyOneEntries(t *testing.T) {
	for _, i := range []int{rootDir, aDir} {
		d := small(t, 1024)
		var want []row
		for n := range 21 {
			x := row{"name" + strconv.Itoa(n), 31 - n}
			wantAdd(t, d, i, x.name, x.to, api.OK)
			want = append(want, x)
			wantRows(t, d, i, want...)
		}
		for range 3 {
			wantAdd(t, d, i, "more", 1, api.ENOSPC)
		}
		wantAdd(t, d, i, "name20", 1, api.EEXIST)
		wantRows(t, d, i, want...)
		wantRemove(t, d, i, "name7", api.OK)
		wantAdd(t, d, i, "more", 1, api.OK)
		wantAdd(t, d, i, "name7", 1, api.ENOSPC)
		wantRows(t, d, i, append(slices.Delete(want, 7, 8), row{"more", 1})...)
	}
}

// leave lets so many blocks be not in use, by files of no name that have the others.
func leave(t *testing.T, d *blocks.Disk, n int) {
	t.Helper()
	for {
		_, left := inode.Left(d)
		if left == n {
			return
		}
		i, e := inode.Alloc(d, api.InodeFile)
		wantErr(t, "Alloc", e, api.OK)
		wantErr(t, "Write", inode.Write(d, i, 0, strings.Repeat("f", 32*min(6, left-n))), api.OK)
	}
}

// Where the blocks end, no entry is added, however many bytes of the last one are free.
func TestAddWithoutBlocks(t *testing.T) {
	for left := range 8 {
		d := small(t, 40)
		leave(t, d, left)
		room := min(21, left*32/9)
		var want []row
		for n := range room {
			x := row{"e" + strconv.Itoa(n), n}
			wantAdd(t, d, aDir, x.name, x.to, api.OK)
			want = append(want, x)
		}
		wantAdd(t, d, aDir, "more", 1, api.ENOSPC)
		wantAdd(t, d, aDir, "more", 1, api.ENOSPC)
		wantAdd(t, d, aDir, "more", 32, api.EINVAL)
		wantRows(t, d, aDir, want...)
		if room == 0 {
			wantAdd(t, d, rootDir, "more", 1, api.ENOSPC)
			continue
		}
		wantAdd(t, d, aDir, "e0", 1, api.EEXIST)
		wantRemove(t, d, aDir, "e0", api.OK)
		wantAdd(t, d, aDir, "more", 1, api.OK)
		wantRows(t, d, aDir, append(want[1:], row{"more", 1})...)
	}
}

// Each Add that needs a block more, where there is just one, and where there is none.
func TestAddWithOneBlock(t *testing.T) {
	for n := range 21 {
		for left := range 2 {
			d := small(t, 40)
			for k := range n {
				wantAdd(t, d, bDir, "e"+strconv.Itoa(k), k, api.OK)
			}
			leave(t, d, left)
			want := api.OK
			if left == 0 && ((n+1)*9+31)/32 > (n*9+31)/32 {
				want = api.ENOSPC
			}
			wantAdd(t, d, bDir, "last", 31, want)
		}
	}
}

// 16.1: Remove

func TestRemoveOfEach(t *testing.T) {
	for count := 1; count <= 21; count++ {
		for k := range count {
			d := small(t, 40)
			var all []row
			for n := range count {
				all = append(all, row{"e" + strconv.Itoa(n), 31 - n})
				wantAdd(t, d, aDir, all[n].name, all[n].to, api.OK)
			}
			wantAdd(t, d, bDir, all[k].name, 7, api.OK)
			wantRemove(t, d, aDir, all[k].name, api.OK)
			wantNone(t, d, aDir, all[k].name)
			rest := slices.Delete(slices.Clone(all), k, k+1)
			wantRows(t, d, aDir, rest...)
			wantRemove(t, d, aDir, all[k].name, api.ENOENT)
			wantRows(t, d, bDir, row{all[k].name, 7})
			if _, left := inode.Left(d); left != 40-12-2-1-(len(rest)*9+31)/32 {
				t.Fatalf("%d blocks are left behind %d entries", left, len(rest))
			}
			wantAdd(t, d, aDir, all[k].name, 3, api.OK)
			wantRows(t, d, aDir, append(rest, row{all[k].name, 3})...)
		}
	}
}

// Without a block left a name can be removed, and one be added in its place.
func TestRemoveOnAFullDisk(t *testing.T) {
	d := small(t, 20)
	full(t, d, aDir) // 6 blocks; the file has 2
	wantAdd(t, d, bDir, "x", 1, api.ENOSPC)
	wantRemove(t, d, aDir, "full0", api.OK)
	wantRemove(t, d, aDir, "full20", api.OK)
	wantRemove(t, d, aDir, "full10", api.OK)
	wantAdd(t, d, bDir, "x", 1, api.ENOSPC)
	wantRemove(t, d, aDir, "full19", api.OK)
	wantAdd(t, d, bDir, "x", 1, api.OK)
	wantAdd(t, d, aDir, "x", 1, api.ENOSPC)
	wantRows(t, d, bDir, row{"x", 1})
}

func TestRemoveFromAnEmptyDirectory(t *testing.T) {
	d := small(t, 20)
	for _, i := range []int{rootDir, aDir} {
		wantRemove(t, d, i, "a", api.ENOENT)
		wantRemove(t, d, i, "", api.ENOENT)
		wantRows(t, d, i)
	}
	for range 30 {
		wantAdd(t, d, aDir, "a", 1, api.OK)
		wantRows(t, d, aDir, row{"a", 1})
		wantRemove(t, d, aDir, "a", api.OK)
		wantRemove(t, d, aDir, "a", api.ENOENT)
		wantRows(t, d, aDir)
	}
}

// The words of a directory, told by hand.
func TestWordsOnTheDisk(t *testing.T) {
	d := blocks.New(13)
	wantErr(t, "Format", inode.Format(d, 13), api.OK)
	wantAdd(t, d, 0, "a\xe9", 31, api.OK)
	wantAdd(t, d, 0, "12345678", 0, api.OK)
	wantWords := func(want ...uint64) {
		t.Helper()
		if got, _ := d.Get(12); !slices.Equal(got, append(want, make([]uint64, 32-len(want))...)) {
			t.Fatalf("block 12 is %d", got)
		}
	}
	wantWords('a', 0xe9, 0, 0, 0, 0, 0, 0, 31, '1', '2', '3', '4', '5', '6', '7', '8', 0)
	wantRemove(t, d, 0, "a\xe9", api.OK)
	wantWords('1', '2', '3', '4', '5', '6', '7', '8', 0)
	wantRemove(t, d, 0, "12345678", api.OK)
	wantWords()
}

// What is laid as the chapter says, by whomever, is read so.
func TestDataOfAnotherHand(t *testing.T) {
	d := small(t, 20)
	wantErr(t, "Write", inode.Write(d, aDir, 0, "b\x00\x00\x00\x00\x00\x00\x00\x03abcdefgh\x1f\xff\xfe\x00\x00\x00\x00\x00\x00\x00"), api.OK)
	wantRows(t, d, aDir, row{"b", 3}, row{"abcdefgh", 31}, row{"\xff\xfe", 0})
	wantRemove(t, d, aDir, "b", api.OK)
	wantAdd(t, d, aDir, "b", 4, api.OK)
	wantRows(t, d, aDir, row{"abcdefgh", 31}, row{"\xff\xfe", 0}, row{"b", 4})
}

// 16.2

// tree is /f, a file, /d/e/f/g/h, directories but for the last, /d/x, a file, /d/up and /d/e/me, names of the root and of their own directory.
func tree(t *testing.T) *blocks.Disk {
	t.Helper()
	d := blocks.New(40)
	wantErr(t, "Format", inode.Format(d, 40), api.OK)
	for _, kind := range []int{1, 2, 2, 2, 2, 1, 1} {
		if _, e := inode.Alloc(d, kind); e != api.OK {
			t.Fatalf("Alloc = %d", e)
		}
	}
	for _, x := range []struct {
		i    int
		name string
		to   int
	}{{0, "f", 1}, {0, "d", 2}, {2, "e", 3}, {3, "f", 4}, {4, "g", 5}, {5, "h", 6}, {2, "x", 7}, {2, "up", 0}, {3, "me", 3}, {0, "gone", 9}} {
		wantAdd(t, d, x.i, x.name, x.to, api.OK)
	}
	return d
}

func TestWalk(t *testing.T) {
	d := tree(t)
	for _, x := range []struct {
		path string
		want int
		e    api.Errno
	}{
		{"/", 0, api.OK}, {"//", 0, api.OK}, {strings.Repeat("/", 32), 0, api.OK},
		{"/f", 1, api.OK}, {"f", 1, api.OK}, {"f/", 1, api.OK}, {"///f///", 1, api.OK}, {"/d", 2, api.OK}, {"d/", 2, api.OK},
		{"/d/e", 3, api.OK}, {"d//e//f", 4, api.OK}, {"/d/e/f/g", 5, api.OK}, {"/d/e/f/g/h", 6, api.OK}, {"//d//e//f//g//h//", 6, api.OK}, {"d/x", 7, api.OK},
		{"/d/up", 0, api.OK}, {"/d/up/f", 1, api.OK}, {"/d/up/d/up/d/up/d/e/f", 4, api.OK}, {"/d/e/me/me/me/f", 4, api.OK}, {"/d/e/me", 3, api.OK},
		{"d/e/me/me/me/me/me/me/me/me/me/f", 4, api.OK}, // 32 bytes
		{"/gone", 9, api.OK},
		{"/no", 0, api.ENOENT}, {"no", 0, api.ENOENT}, {"/no/", 0, api.ENOENT}, {"/no/x", 0, api.ENOENT}, {"/no/no/no", 0, api.ENOENT}, {"/e", 0, api.ENOENT},
		{"/d/no", 0, api.ENOENT}, {"/d/no/f", 0, api.ENOENT}, {"/d/e/f/g/no", 0, api.ENOENT}, {"/d/e/no/g/h", 0, api.ENOENT},
		{"/d/f", 0, api.ENOENT}, {"/ff", 0, api.ENOENT}, {"/.", 0, api.ENOENT}, {"/..", 0, api.ENOENT}, {"/d/..", 0, api.ENOENT}, {"/F", 0, api.ENOENT},
		{"/f/x", 0, api.ENOTDIR}, {"/f/f", 0, api.ENOTDIR}, {"/f/no/no", 0, api.ENOTDIR}, {"/d/x/y", 0, api.ENOTDIR}, {"/d/x/y/z", 0, api.ENOTDIR}, {"/d/e/f/g/h/i", 0, api.ENOTDIR},
		{"/gone/x", 0, api.ENOTDIR}, {"/f//x", 0, api.ENOTDIR},
		{"", 0, api.ENOENT}, {strings.Repeat("/", 33), 0, api.ENAMETOOLONG}, {"/123456789", 0, api.ENAMETOOLONG}, {"/f\x00", 0, api.EINVAL}, {"f\x00", 0, api.EINVAL},
		{"/no/123456789", 0, api.ENAMETOOLONG}, {"/f/x/a\x00", 0, api.EINVAL}, {"/no/a\x00", 0, api.EINVAL}, {"/f/x/" + strings.Repeat("/", 28), 0, api.ENAMETOOLONG},
		{"/d/e/\x00", 0, api.EINVAL}, {"/d/123456789/a\x00", 0, api.ENAMETOOLONG},
	} {
		wantSame(t, d, "Walk", func() { wantWalk(t, d, x.path, x.want, x.e) })
	}
}

func TestParent(t *testing.T) {
	d := tree(t)
	for _, x := range []struct {
		path string
		want int
		name string
		e    api.Errno
	}{
		{"/f", 0, "f", api.OK}, {"f", 0, "f", api.OK}, {"//f//", 0, "f", api.OK}, {"/new", 0, "new", api.OK}, {"/12345678", 0, "12345678", api.OK},
		{"/d", 0, "d", api.OK}, {"/d/", 0, "d", api.OK}, {"/d/e", 2, "e", api.OK}, {"/d/new", 2, "new", api.OK}, {"d//new//", 2, "new", api.OK},
		{"/d/e/f/g/h", 5, "h", api.OK}, {"/d/e/f/g/new", 5, "new", api.OK}, {"/d/e/f/g", 4, "g", api.OK},
		{"/d/up/new", 0, "new", api.OK}, {"/d/up", 2, "up", api.OK}, {"/d/e/me/me", 3, "me", api.OK}, {"/d/e/me/x", 3, "x", api.OK},
		{"/..", 0, "..", api.OK}, {"/d/\xff\xe2", 2, "\xff\xe2", api.OK}, {"/gone", 0, "gone", api.OK},
		{"/f/x", 0, "", api.ENOTDIR}, {"/f/x/y", 0, "", api.ENOTDIR}, {"/d/x/y", 0, "", api.ENOTDIR}, {"/d/e/f/g/h/i", 0, "", api.ENOTDIR}, {"/d/e/f/g/h/i/j", 0, "", api.ENOTDIR},
		{"/gone/x", 0, "", api.ENOTDIR}, {"f/f", 0, "", api.ENOTDIR},
		{"/no/x", 0, "", api.ENOENT}, {"/no/x/y", 0, "", api.ENOENT}, {"/d/no/x", 0, "", api.ENOENT}, {"/d/e/no/x", 0, "", api.ENOENT}, {"/x/y", 0, "", api.ENOENT},
		{"", 0, "", api.ENOENT}, {"/", 0, "", api.EINVAL}, {"//", 0, "", api.EINVAL}, {strings.Repeat("/", 32), 0, "", api.EINVAL}, {strings.Repeat("/", 33), 0, "", api.ENAMETOOLONG},
		{"/123456789", 0, "", api.ENAMETOOLONG}, {"/no/123456789", 0, "", api.ENAMETOOLONG}, {"/f/123456789", 0, "", api.ENAMETOOLONG},
		{"\x00", 0, "", api.EINVAL}, {"/no/a\x00", 0, "", api.EINVAL}, {"/f/x/a\x00", 0, "", api.EINVAL}, {"/d/\x00", 0, "", api.EINVAL},
		{"/123456789/a\x00", 0, "", api.ENAMETOOLONG}, {"/a\x00/123456789", 0, "", api.EINVAL},
	} {
		wantSame(t, d, "Parent", func() { wantParent(t, d, x.path, x.want, x.name, x.e) })
	}
}

// What Parent answers is where Add and Remove do it.
func TestParentAndAdd(t *testing.T) {
	d := tree(t)
	for _, path := range []string{"/new", "/d/new", "/d/e/f/g/new", "/d/e/me/n\xe2", "/d/up/12345678"} {
		i, name, e := dir.Parent(d, path)
		wantErr(t, "Parent", e, api.OK)
		wantWalk(t, d, path, 0, api.ENOENT)
		wantAdd(t, d, i, name, 30, api.OK)
		wantWalk(t, d, path, 30, api.OK)
		wantAdd(t, d, i, name, 30, api.EEXIST)
	}
	wantWalk(t, d, "/12345678", 30, api.OK)
	for _, path := range []string{"/new", "/d/e/n\xe2"} {
		i, name, _ := dir.Parent(d, path)
		wantRemove(t, d, i, name, api.OK)
		wantWalk(t, d, path, 0, api.ENOENT)
	}
	wantWalk(t, d, "/d/new", 30, api.OK)
}

// The root that is no directory any more, and the root that is full of itself.
func TestRoots(t *testing.T) {
	d := small(t, 20)
	wantAdd(t, d, rootDir, "a", rootDir, api.OK)
	wantWalk(t, d, "/a/a/a/a/a/a/a/a/a/a/a/a/a/a/a/a", 0, api.OK)
	wantParent(t, d, "/a/a/a/a/a/a/a/a/a/a/a/a/a/a/a/b", 0, "b", api.OK)
	wantWalk(t, d, "/a/a/a/b/a", 0, api.ENOENT)
	wantRemove(t, d, rootDir, "a", api.OK)
	wantWalk(t, d, "/a/a", 0, api.ENOENT)
	x, _ := inode.Get(d, rootDir)
	x.Kind = api.InodeFile
	wantErr(t, "Put", inode.Put(d, rootDir, x), api.OK)
	wantWalk(t, d, "/", 0, api.OK)
	wantWalk(t, d, "/a", 0, api.ENOTDIR)
	wantParent(t, d, "/a", 0, "", api.ENOTDIR)
	wantParent(t, d, "/", 0, "", api.EINVAL)
}
