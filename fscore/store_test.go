package fscore_test

import (
	"math"
	"slices"
	"strconv"
	"strings"
	"testing"

	"janus/api"
	"janus/blocks"
	"janus/dir"
	"janus/exodisk"
	"janus/fscore"
	"janus/inode"
)

// failing is a store that answers an error at one of its calls, or from that one on.
type failing struct {
	*blocks.Disk
	calls, at int
	forever   bool
}

const broken api.Errno = 77

func (f *failing) fails() bool {
	f.calls++
	return f.calls == f.at || f.forever && f.calls > f.at
}

func (f *failing) Get(b int) ([]uint64, api.Errno) {
	if f.fails() {
		words := make([]uint64, 32) // an error's words must not be taken
		for w := range words {
			words[w] = 2
		}
		return words, broken
	}
	return f.Disk.Get(b)
}

func (f *failing) Put(b int, words []uint64) api.Errno {
	if f.fails() {
		return broken
	}
	return f.Disk.Put(b, words)
}

// answer is all that a call can answer.
type answer struct {
	n     int
	nodes string
	e     api.Errno
}

// call is a call of a function that is OK on furnished's disk.
type call struct {
	name string
	do   func(s api.Store) answer
}

func treeOf(s api.Store) answer {
	var b strings.Builder
	for _, x := range fscore.Tree(s) {
		b.WriteString(x.Path + "\x00" + x.Data + "\x00")
		if x.Dir {
			b.WriteString("dir\x00")
		}
	}
	return answer{nodes: b.String()}
}

func calls() []call {
	only := func(e api.Errno) answer { return answer{e: e} }
	create := func(path string) func(s api.Store) answer {
		return func(s api.Store) answer {
			i, e := fscore.Create(s, path)
			return answer{n: i, e: e}
		}
	}
	mkdir := func(path string) func(s api.Store) answer {
		return func(s api.Store) answer { return only(fscore.Mkdir(s, path)) }
	}
	unlink := func(path string, open ...int) func(s api.Store) answer {
		return func(s api.Store) answer { return only(fscore.Unlink(s, path, open)) }
	}
	rename := func(from, to string, open ...int) func(s api.Store) answer {
		return func(s api.Store) answer { return only(fscore.Rename(s, from, to, open)) }
	}
	return []call{
		{"Make", func(s api.Store) answer {
			return only(fscore.Make(s, 60, []api.Node{folder("/q"), file("/q/f", xText), file("/q/f", "short"), folder("/q/r")}))
		}},
		{"Make of nothing", func(s api.Store) answer { return only(fscore.Make(s, 13, nil)) }},
		{"Create", create("/a/b/c/new")},
		{"Create with a new block", create("/empty/new")},
		{"Create of what is there", create("/a/b/c/x")},
		{"Mkdir", mkdir("/a/b/c/new")},
		{"Mkdir with a new block", mkdir("/empty/new")},
		{"Unlink", unlink("/a/b/c/x")},
		{"Unlink of an open one", unlink("/a/b/c/x", xFile)},
		{"Unlink of one of two", unlink("/a/also")},
		{"Link", func(s api.Store) answer { return only(fscore.Link(s, "/top", "/empty/new")) }},
		{"Rename", rename("/top", "/new")},
		{"Rename to another directory", rename("/a/b", "/empty/new")},
		{"Rename to another file", rename("/a/b/c/x", "/a/y")},
		{"Rename to another file beside", rename("/a/also", "/a/y", yFile)},
		{"Rename to the same", rename("/top", "/a/also")},
		{"Tree", treeOf},
	}
}

// furnished is house's disk, with a file of two names and one of none on it.
func furnished(t *testing.T) *blocks.Disk {
	t.Helper()
	d := house(t, 60)
	wantLink(t, d, "/top", "/a/also", api.OK)
	wantCreate(t, d, "/gone", freeInode, api.OK)
	wantErr(t, "Write", inode.Write(d, freeInode, 0, "gone"), api.OK)
	wantUnlink(t, d, "/gone", []int{freeInode}, api.OK)
	return d
}

// An error of the store is told as one, whichever of its calls it answers it to, and beside it nothing;
// and nothing is changed, if it fails but once.
func TestStoreThatFails(t *testing.T) {
	for _, c := range calls() {
		for _, forever := range []bool{false, true} {
			whole := &failing{Disk: furnished(t)}
			if got := c.do(whole); got.e != api.OK || got == c.do(nil) {
				t.Fatalf("%s = %v", c.name, got)
			}
			for at := 1; at <= whole.calls; at++ {
				f := &failing{Disk: furnished(t), at: at, forever: forever}
				was := snap(f.Disk)
				got := c.do(f)
				if c.name == "Tree" && got != (answer{}) || c.name != "Tree" && (got.e == api.OK || got != answer{e: got.e}) {
					t.Errorf("%s with an error at call %d = %v", c.name, at, got)
				}
				if !forever && !slices.Equal(snap(f.Disk), was) {
					t.Errorf("%s with an error at call %d changed the store", c.name, at)
				}
			}
		}
	}
}

func TestCloseOnAStoreThatFails(t *testing.T) {
	whole := &failing{Disk: furnished(t)}
	fscore.Close(whole, freeInode)
	wantFree(t, whole.Disk, freeInode)
	for at := 1; at <= whole.calls; at++ {
		f := &failing{Disk: furnished(t), at: at}
		wantSame(t, f.Disk, "Close", func() { fscore.Close(f, freeInode) })
		fscore.Close(f, freeInode)
		wantFree(t, f.Disk, freeInode)
	}
}

// readOnly refuses what is put.
type readOnly struct{ *blocks.Disk }

func (readOnly) Put(int, []uint64) api.Errno {
	return broken
}

// What changes nothing needs no Put; all else is the store's error, behind those of the chapter.
func TestStoreThatIsReadOnly(t *testing.T) {
	d := furnished(t)
	wantSame(t, d, "a refused call", func() {
		for _, c := range calls() {
			want := answer{e: broken}
			if c.name == "Tree" || c.name == "Create of what is there" || c.name == "Rename to the same" {
				want = c.do(d)
			}
			if got := c.do(readOnly{d}); got != want {
				t.Errorf("%s = %v, want %v", c.name, got, want)
			}
		}
		fscore.Close(readOnly{d}, freeInode)
	})
	_, e := fscore.Create(readOnly{d}, "/a")
	wantErr(t, "Create", e, api.EISDIR)
	wantErr(t, "Mkdir", fscore.Mkdir(readOnly{d}, "/no/x"), api.ENOENT)
	wantErr(t, "Unlink", fscore.Unlink(readOnly{d}, "/", nil), api.EISDIR)
	wantErr(t, "Link", fscore.Link(readOnly{d}, "/top", "/a"), api.EEXIST)
	wantErr(t, "Rename", fscore.Rename(readOnly{d}, "/a", "/a/x", nil), api.EINVAL)
	wantErr(t, "Make", fscore.Make(readOnly{d}, 12, nil), api.ErrArg)
}

// A nil store, and one without a file system, has no tree; what chapter 16 tells of paths is told ahead.
func TestNilStore(t *testing.T) {
	var none *blocks.Disk
	for _, s := range []api.Store{nil, none, blocks.New(1), &blocks.Disk{}, blocks.New(20)} {
		for _, c := range calls()[2:] {
			if got := c.do(s); c.name == "Tree" && got != (answer{}) || c.name != "Tree" && (got != answer{e: api.ENOTDIR}) {
				t.Errorf("%s of no file system = %v", c.name, got)
			}
		}
		for _, i := range append(far(), 0, 1, 31) {
			fscore.Close(s, i)
		}
		for _, w := range append(splitErrors(), wrong{"/", api.EINVAL}) {
			i, e := fscore.Create(s, w.path)
			if i != 0 || e != w.e {
				t.Errorf("Create(%q) = %d, %d", w.path, i, e)
			}
			wantErr(t, "Mkdir", fscore.Mkdir(s, w.path), w.e)
			wantErr(t, "Rename", fscore.Rename(s, w.path, "/b", nil), w.e)
		}
		for _, w := range splitErrors() {
			wantErr(t, "Unlink", fscore.Unlink(s, w.path, nil), w.e)
			wantErr(t, "Link", fscore.Link(s, w.path, "/b"), w.e)
		}
		if fscore.Unlink(s, "/", nil) == api.OK || fscore.Link(s, "/", "/a") == api.OK {
			t.Error("what is not there can be unlinked, or linked")
		}
	}
	for _, s := range []api.Store{nil, none, blocks.New(1), &blocks.Disk{}} {
		for _, count := range []int{-1, 0, 12, 13, 60, 1024, 1025} {
			wantErr(t, "Make", fscore.Make(s, count, nil), api.ErrArg)
			wantErr(t, "Make", fscore.Make(s, count, []api.Node{folder("/d")}), api.ErrArg)
		}
	}
}

// panicking is a store that panics at one of its calls.
type panicking struct {
	*blocks.Disk
	calls, at int
}

func (p *panicking) panics() {
	p.calls++
	if p.calls == p.at {
		panic("a store's own")
	}
}

func (p *panicking) Get(b int) ([]uint64, api.Errno) {
	p.panics()
	return p.Disk.Get(b)
}

func (p *panicking) Put(b int, words []uint64) api.Errno {
	p.panics()
	return p.Disk.Put(b, words)
}

// R1: no panic comes out, whoever's it is.
func TestStoreThatPanics(t *testing.T) {
	for _, c := range calls() {
		whole := &panicking{Disk: furnished(t)}
		c.do(whole)
		for at := 1; at <= whole.calls; at++ {
			got := c.do(&panicking{Disk: furnished(t), at: at})
			if c.name == "Tree" && got != (answer{}) || c.name != "Tree" && (got != answer{e: api.ErrArg}) {
				t.Errorf("%s with a panic at call %d = %v", c.name, at, got)
			}
		}
	}
	for at := range 20 {
		fscore.Close(&panicking{Disk: furnished(t), at: at}, freeInode)
	}
}

// keeper is a store that keeps the very lists that it is handed, and hands them out, with room behind
// their ends; it knows what should be in them.
type keeper struct {
	lists, copies [][]uint64
}

func newKeeper(plain *blocks.Disk) *keeper {
	k := &keeper{}
	for b := range plain.Len() {
		words, _ := plain.Get(b)
		k.lists = append(k.lists, append(words, 1, 2, 3)[:32])
		k.copies = append(k.copies, slices.Clone(words))
	}
	return k
}

func (k *keeper) Get(b int) ([]uint64, api.Errno) {
	if b < 0 || b >= len(k.lists) {
		return nil, api.ErrArg
	}
	return k.lists[b], api.OK
}

func (k *keeper) Put(b int, words []uint64) api.Errno {
	if b < 0 || b >= len(k.lists) || len(words) != 32 {
		return api.ErrArg
	}
	k.lists[b] = words
	k.copies[b] = slices.Clone(words)
	return api.OK
}

func (k *keeper) check(t *testing.T) {
	t.Helper()
	for b, l := range k.lists {
		if !slices.Equal(l, k.copies[b]) {
			t.Fatalf("block %d was changed without a Put", b)
		}
	}
}

// R4: lists that the store hands out are not changed, and those that it is handed are its own.
func TestListsOfTheStore(t *testing.T) {
	for _, c := range calls() {
		plain := furnished(t)
		k := newKeeper(plain)
		for _, next := range append([]call{c}, calls()...) {
			if got, want := next.do(k), next.do(plain); got != want {
				t.Fatalf("%s = %v, want %v", next.name, got, want)
			}
			fscore.Close(k, freeInode)
			fscore.Close(plain, freeInode)
			k.check(t)
		}
	}
}

// R4: what is handed out is the caller's own; what is handed in is not changed, nor what lies behind its end.
func TestListsOfTheCaller(t *testing.T) {
	d := furnished(t)
	one, two := fscore.Tree(d), fscore.Tree(d)
	want := slices.Clone(two)
	for k := range one {
		one[k] = file("/other", "other")
	}
	_ = append(one[:1], folder("/q"))
	if !slices.Equal(two, want) || !slices.Equal(fscore.Tree(d), want) {
		t.Error("two answers share memory")
	}
	open := []int{freeInode, topFile, 99, 98}
	wantUnlink(t, d, "/top", open[:2], api.OK)
	wantRename(t, d, "/a/b/c/x", "/a/y", open[:2], api.OK)
	if !slices.Equal(open, []int{freeInode, topFile, 99, 98}) {
		t.Errorf("open is %d", open)
	}
	if !slices.Equal(two, want) {
		t.Error("an answer changed behind a call")
	}
	tree := []api.Node{folder("/z"), file("/z/b", "b"), file("/a", "a"), file("/q", "q")}
	was := slices.Clone(tree)
	wantErr(t, "Make", fscore.Make(d, 60, tree[:3]), api.OK)
	if !slices.Equal(tree, was) {
		t.Errorf("the tree is %+v", tree)
	}
	tree[0], tree[1] = folder("/n"), file("/n/n", "n")
	wantTree(t, d, file("/a", "a"), folder("/z"), file("/z/b", "b"))
}

// A file system may lie in an extent, too.
func TestOnAnExtent(t *testing.T) {
	k := exodisk.New(80)
	slot, e := k.Alloc(1, 10, 60)
	wantErr(t, "Alloc", e, api.OK)
	plain := furnished(t)
	v := k.View(1, slot)
	for b := range 60 {
		words, _ := plain.Get(b)
		wantErr(t, "Put", v.Put(b, words), api.OK)
	}
	for _, c := range calls()[2:] {
		if got, want := c.do(v), c.do(plain); got != want {
			t.Errorf("%s = %v, want %v", c.name, got, want)
		}
	}
	other, e := k.Grant(1, slot, 2, api.RightRead)
	wantErr(t, "Grant", e, api.OK)
	if treeOf(k.View(2, other)) != treeOf(plain) {
		t.Error("who may read can't see the tree")
	}
	wantErr(t, "Mkdir", fscore.Mkdir(k.View(2, other), "/mine"), api.ErrCap)
}

// odd is a store that answers so many words, of those that it has and more.
type odd struct {
	*blocks.Disk
	n int
}

func (o odd) Get(b int) ([]uint64, api.Errno) {
	words, e := o.Disk.Get(b)
	if e != api.OK || o.n < 0 {
		return nil, e
	}
	return append(words, words...)[:o.n], e
}

func TestStoreOfOtherLengths(t *testing.T) {
	for _, n := range []int{-1, 0, 1, 2, 3, 4, 9, 18, 19, 31, 32, 33, 64} {
		for _, c := range calls() {
			c.do(odd{furnished(t), n})
		}
		tryAll(odd{furnished(t), n}, &dice{3})
	}
}

// tryAll does each call with all kinds of arguments; none may panic or go on without end.
func tryAll(s api.Store, d *dice) {
	paths := []string{"/", "", "/a", "/a/b", "/a/b/c", "/a/b/c/x", "/empty/new", "/top", "/a/loop", "/a/loop/b/loop", "/new", "/a\x00", "/123456789", d.text(d.roll(40))}
	open := []int{d.roll(32), math.MinInt, -1, 32, math.MaxInt}
	for _, path := range paths {
		fscore.Create(s, path)
		fscore.Mkdir(s, path+"d")
		other := paths[d.roll(len(paths))]
		fscore.Link(s, path, other+"l")
		fscore.Rename(s, path, other, open)
		fscore.Rename(s, path+"l", other+"/r", nil)
		fscore.Tree(s)
		fscore.Unlink(s, path, open)
	}
	for _, i := range append(far(), 0, 1, 2, 3, 9, 31) {
		fscore.Close(s, i)
	}
	fscore.Tree(s)
}

// R1: directories that lie in themselves, or in several others, have no end of paths; Tree ends.
func TestDirectoriesInThemselves(t *testing.T) {
	d := house(t, 60)
	for _, i := range []int{rootDir, aDir, bDir, cDir, emptyDir} {
		for _, to := range []int{rootDir, aDir, bDir, cDir, emptyDir} {
			wantErr(t, "Add", dir.Add(d, i, "loop"+string(rune('0'+to)), to), api.OK)
		}
	}
	fscore.Tree(d)
	fscore.Rename(d, "/a/loop0/a/loop1/b", "/loop6/x", nil)
	tryAll(d, &dice{1})
}

// Each directory has 21 names of the next one: there are more paths than could ever be told.
func TestDirectoriesOfManyNames(t *testing.T) {
	d := made(t, 1024)
	for range 31 {
		inode.Alloc(d, api.InodeDir)
	}
	for i := range 32 {
		for k := range 21 {
			wantErr(t, "Add", dir.Add(d, i, "n"+strconv.Itoa(k), (i+1)%32), api.OK)
		}
	}
	fscore.Tree(d)
	tryAll(d, &dice{2})
}

// R1 on directories whose data no call laid: of any length, with any bytes.
func TestDataOfAllKinds(t *testing.T) {
	d := &dice{13}
	for round := range 200 {
		s := furnished(t)
		for _, i := range []int{rootDir, aDir, bDir, emptyDir} {
			if d.roll(3) == 0 {
				continue
			}
			text := []byte(d.text(d.roll(193)))
			for j := range text {
				if round%2 == 0 {
					text[j] = []byte{0, 0, 'a', 'b', 255, 1, 2, 3}[d.roll(8)]
				}
				if j%9 == 8 && d.roll(3) > 0 {
					text[j] %= 33
				}
			}
			wantErr(t, "Resize", inode.Resize(s, i, 0), api.OK)
			wantErr(t, "Write", inode.Write(s, i, 0, string(text)), api.OK)
		}
		for _, x := range fscore.Tree(s) {
			fscore.Rename(s, x.Path, "/a/new", nil)
			fscore.Unlink(s, x.Path, nil)
		}
		tryAll(s, d)
	}
}

// R1 on stores whose words no call laid.
func TestWordsOfAllKinds(t *testing.T) {
	d := &dice{17}
	l := []uint64{0, 1, 2, 3, 11, 12, 13, 31, 32, 33, 64, 189, 190, 192, 193, 1024, 1 << 32, 1 << 63, math.MaxInt64, math.MaxUint64}
	for round := range 200 {
		s := furnished(t)
		for b := range s.Len() {
			words, _ := s.Get(b)
			for w := range words {
				if d.roll(2+round%30) == 0 && (b > 0 || w > 3 || d.roll(6) == 0) {
					words[w] = l[d.roll(len(l))]
				}
			}
			s.Put(b, words)
		}
		tryAll(s, d)
	}
	tryAll(nil, d)
	tryAll(blocks.New(1), d)
	tryAll(blocks.New(20), d)
}
