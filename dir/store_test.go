package dir_test

import (
	"math"
	"slices"
	"strconv"
	"strings"
	"testing"

	"janus/api"
	"janus/blocks"
	"janus/dir"
	"janus/inode"
)

// failing is a store that answers an error at one of its calls, or from that one on.
type failing struct {
	*blocks.Disk
	calls, at int
	forever   bool
}

const broken api.Errno = 77

func (f *failing) fails() bool {
	f.calls++
	return f.calls == f.at || f.forever && f.calls > f.at
}

func (f *failing) Get(b int) ([]uint64, api.Errno) {
	if f.fails() {
		words := make([]uint64, 32) // an error's words must not be taken
		for w := range words {
			words[w] = 2
		}
		return words, broken
	}
	return f.Disk.Get(b)
}

func (f *failing) Put(b int, words []uint64) api.Errno {
	if f.fails() {
		return broken
	}
	return f.Disk.Put(b, words)
}

// answer is all that a call can answer.
type answer struct {
	n     int
	name  string
	names string
	to    string
	e     api.Errno
}

// call is a call of each function, on a disk that tree made.
type call struct {
	name  string
	do    func(s api.Store) answer
	blind answer // what is answered where nothing can be read
}

func calls() []call {
	list := func(s api.Store, i int) answer {
		var a answer
		names, to := dir.List(s, i)
		for k := range names {
			a.names += strconv.Quote(names[k])
			a.to += strconv.Itoa(to[k]) + ";"
		}
		return a
	}
	walk := func(s api.Store, path string) answer {
		i, e := dir.Walk(s, path)
		return answer{n: i, e: e}
	}
	parent := func(s api.Store, path string) answer {
		i, name, e := dir.Parent(s, path)
		return answer{n: i, name: name, e: e}
	}
	none := answer{e: api.ENOTDIR}
	return []call{
		{"List", func(s api.Store) answer { return list(s, 0) }, answer{}},
		{"List of another", func(s api.Store) answer { return list(s, 2) }, answer{}},
		{"Find", func(s api.Store) answer { return answer{n: dir.Find(s, 2, "x")} }, answer{n: -1}},
		{"Add", func(s api.Store) answer { return answer{e: dir.Add(s, 2, "new", 9)} }, none},
		{"Add with a new block", func(s api.Store) answer { return answer{e: dir.Add(s, 0, "new", 9)} }, none},
		{"Add to an empty one", func(s api.Store) answer { return answer{e: dir.Add(s, 8, "new", 9)} }, none},
		{"Remove of the first", func(s api.Store) answer { return answer{e: dir.Remove(s, 2, "e")} }, none},
		{"Remove of a middle one", func(s api.Store) answer { return answer{e: dir.Remove(s, 2, "x")} }, none},
		{"Remove of the last", func(s api.Store) answer { return answer{e: dir.Remove(s, 2, "up")} }, none},
		{"Remove of many", func(s api.Store) answer { return answer{e: dir.Remove(s, 9, "full0")} }, none},
		{"Remove of one in many", func(s api.Store) answer { return answer{e: dir.Remove(s, 9, "full11")} }, none},
		{"Remove of the only one", func(s api.Store) answer { return answer{e: dir.Remove(s, 4, "g")} }, none},
		{"Walk", func(s api.Store) answer { return walk(s, "/d/e/f/g/h") }, none},
		{"Parent", func(s api.Store) answer { return parent(s, "/d/e/f/g/new") }, none},
		{"Parent in the root", func(s api.Store) answer { return parent(s, "/new") }, none},
	}
}

// prepared is tree's disk, with an empty directory, 8, and a full one, 9, on it.
func prepared(t *testing.T) *blocks.Disk {
	t.Helper()
	d := tree(t)
	inode.Alloc(d, api.InodeDir)
	inode.Alloc(d, api.InodeDir)
	full(t, d, 9)
	return d
}

// The store's error is told as one, whichever of its calls it answers it to, and beside it nothing; and
// nothing is changed, if it fails but once.
func TestStoreThatFails(t *testing.T) {
	for _, c := range calls() {
		for _, forever := range []bool{false, true} {
			whole := &failing{Disk: prepared(t)}
			if got := c.do(whole); got.e != api.OK || got == c.blind {
				t.Fatalf("%s = %v", c.name, got)
			}
			if whole.calls == 0 {
				t.Fatalf("%s asks the store for nothing", c.name)
			}
			for at := 1; at <= whole.calls; at++ {
				f := &failing{Disk: prepared(t), at: at, forever: forever}
				was := snap(f.Disk)
				got := c.do(f)
				if got != c.blind && (c.blind.e == api.OK || got != answer{e: api.ENOSPC} && got != answer{e: broken}) {
					t.Errorf("%s with an error at call %d = %v", c.name, at, got)
				}
				if !forever && !slices.Equal(snap(f.Disk), was) {
					t.Errorf("%s with an error at call %d changed the store", c.name, at)
				}
			}
		}
	}
}

// readOnly refuses what is put.
type readOnly struct{ *blocks.Disk }

func (r readOnly) Put(b int, words []uint64) api.Errno { return broken }

// 16.1: whatever Write's error is, Add's is ENOSPC.
func TestStoreThatIsNotWritten(t *testing.T) {
	d := prepared(t)
	wantSame(t, d, "a store that is not written", func() {
		for _, c := range calls() {
			var want answer
			switch {
			case strings.HasPrefix(c.name, "Add"):
				want.e = api.ENOSPC
			case strings.HasPrefix(c.name, "Remove"):
				want.e = broken
			default:
				want = c.do(d)
			}
			if got := c.do(readOnly{d}); got != want {
				t.Errorf("%s = %v, want %v", c.name, got, want)
			}
		}
	})
	wantErr(t, "Add", dir.Add(readOnly{d}, 2, "x", 1), api.EEXIST)
	wantErr(t, "Add", dir.Add(readOnly{d}, 2, "", 1), api.EINVAL)
	wantErr(t, "Add", dir.Add(readOnly{d}, 1, "a", 1), api.ENOTDIR)
	wantErr(t, "Remove", dir.Remove(readOnly{d}, 2, "no"), api.ENOENT)
	wantErr(t, "Remove", dir.Remove(readOnly{d}, 1, "no"), api.ENOTDIR)
}

// A nil store has no directory.
func TestNilStore(t *testing.T) {
	var none *blocks.Disk
	for _, s := range []api.Store{nil, none, blocks.New(1), blocks.New(20), &blocks.Disk{}} {
		for _, c := range calls() {
			if got := c.do(s); got != c.blind {
				t.Errorf("%s of no file system = %v", c.name, got)
			}
		}
		wantWalk(t, s, "", 0, api.ENOENT)
		wantWalk(t, s, "/", 0, api.OK)
		wantWalk(t, s, "/a", 0, api.ENOTDIR)
		wantWalk(t, s, "/123456789", 0, api.ENAMETOOLONG)
		wantParent(t, s, "", 0, "", api.ENOENT)
		wantParent(t, s, "/", 0, "", api.EINVAL)
		wantParent(t, s, "/a", 0, "", api.ENOTDIR)
		wantParent(t, s, "a\x00", 0, "", api.EINVAL)
		for _, i := range far() {
			wantNone(t, s, i, "", "a")
			wantErr(t, "Add", dir.Add(s, i, "", -1), api.ENOTDIR)
			wantErr(t, "Remove", dir.Remove(s, i, ""), api.ENOTDIR)
		}
	}
}

// keeper is a store that keeps the very lists that it is handed, and hands them out, with room behind
// their ends; it knows what should be in them.
type keeper struct {
	lists, copies [][]uint64
}

func (k *keeper) Get(b int) ([]uint64, api.Errno) {
	if b < 0 || b >= len(k.lists) {
		return nil, api.ErrArg
	}
	return k.lists[b], api.OK
}

func (k *keeper) Put(b int, words []uint64) api.Errno {
	if b < 0 || b >= len(k.lists) || len(words) != 32 {
		return api.ErrArg
	}
	k.lists[b] = words
	k.copies[b] = slices.Clone(words)
	return api.OK
}

func (k *keeper) check(t *testing.T) {
	t.Helper()
	for b, l := range k.lists {
		if !slices.Equal(l, k.copies[b]) {
			t.Fatalf("block %d was changed without a Put", b)
		}
	}
}

// R4: lists that the store hands out are not changed, and those that it is handed are its own.
func TestListsOfTheStore(t *testing.T) {
	plain := prepared(t)
	k := &keeper{}
	for b := range plain.Len() {
		words, _ := plain.Get(b)
		k.lists = append(k.lists, append(words, 1, 2, 3)[:32])
		k.copies = append(k.copies, slices.Clone(words))
	}
	for range 3 {
		for _, c := range calls() {
			if got, want := c.do(k), c.do(plain); got != want {
				t.Fatalf("%s = %v, want %v", c.name, got, want)
			}
			k.check(t)
		}
	}
}

// R4: what is handed out is the caller's own, and stays as it is whatever is done behind it.
func TestAnswersStay(t *testing.T) {
	d := prepared(t)
	names, to := dir.List(d, 2)
	again, toAgain := dir.List(d, 2)
	names[0], to[0] = "z", 30
	_ = append(names[:1], "y")
	_ = append(to[:1], 29)
	wantRows(t, d, 2, row{"e", 3}, row{"x", 7}, row{"up", 0})
	i, name, _ := dir.Parent(d, "/d/new")
	wantRemove(t, d, 2, "e", api.OK)
	wantRemove(t, d, 2, "x", api.OK)
	wantAdd(t, d, 2, "other", 9, api.OK)
	if !slices.Equal(again, []string{"e", "x", "up"}) || !slices.Equal(toAgain, []int{3, 7, 0}) || i != 2 || name != "new" {
		t.Errorf("%q, %d, %d, %q", again, toAgain, i, name)
	}
}

// odd is a store that answers so many words, of those that it has and more.
type odd struct {
	*blocks.Disk
	n int
}

func (o odd) Get(b int) ([]uint64, api.Errno) {
	words, e := o.Disk.Get(b)
	if e != api.OK || o.n < 0 {
		return nil, e
	}
	return append(words, words...)[:o.n], e
}

func TestStoreOfOtherLengths(t *testing.T) {
	for _, n := range []int{-1, 0, 1, 2, 3, 4, 9, 18, 19, 31, 32, 33, 64} {
		for _, c := range calls() {
			c.do(odd{prepared(t), n})
		}
	}
}

// tryAll does each call with all kinds of arguments; none may panic or go on without end.
func tryAll(s api.Store, d *dice) {
	for _, c := range calls() {
		c.do(s)
	}
	for _, i := range append(far(), 0, 1, 2, 3, 9, 31) {
		dir.List(s, i)
		for _, name := range []string{"", "a", "\x00", "12345678", "123456789", d.text(8), d.text(9), d.text(d.roll(300))} {
			dir.Find(s, i, name)
			dir.Add(s, i, name, d.roll(40)-4)
			dir.Add(s, i, name, math.MaxInt)
			dir.Remove(s, i, name)
		}
	}
	for range 20 {
		path := d.text(d.roll(40))
		dir.Walk(s, path)
		dir.Parent(s, path)
		dir.Split(path)
	}
}

// R1 on directories whose data no call laid: of any length, with any bytes.
func TestDataOfAllKinds(t *testing.T) {
	d := &dice{13}
	for round := range 200 {
		s := prepared(t)
		for _, i := range []int{0, 2, 3, 8} {
			wantErr(t, "Resize", inode.Resize(s, i, 0), api.OK)
			text := []byte(d.text(d.roll(193)))
			if round%2 == 0 {
				for j := range text {
					text[j] = []byte{0, 0, 'a', 255, 2, 3}[d.roll(6)]
				}
			}
			wantErr(t, "Write", inode.Write(s, i, 0, string(text)), api.OK)
			names, to := dir.List(s, i)
			if len(names) != len(text)/9 || len(to) != len(names) {
				t.Fatalf("List of %d bytes has %d names, %d inodes", len(text), len(names), len(to))
			}
			for _, name := range names {
				dir.Walk(s, name+"/a")
				dir.Remove(s, i, name)
			}
		}
		tryAll(s, d)
	}
	s := prepared(t)
	wantErr(t, "Resize", inode.Resize(s, 2, 192), api.OK)
	wantErr(t, "Add", dir.Add(s, 2, "new", 1), api.ENOSPC)
	tryAll(s, d)
}

// R1 on stores whose words no call laid.
func TestWordsOfAllKinds(t *testing.T) {
	d := &dice{17}
	l := []uint64{0, 1, 2, 3, 11, 12, 13, 31, 32, 33, 64, 189, 190, 192, 193, 1024, 1 << 32, 1 << 63, math.MaxInt64, math.MaxUint64}
	for round := range 200 {
		s := prepared(t)
		for b := range s.Len() {
			words, _ := s.Get(b)
			for w := range words {
				if d.roll(1+round%20) == 0 && (b > 0 || w > 3 || d.roll(4) == 0) {
					words[w] = l[d.roll(len(l))]
				}
			}
			s.Put(b, words)
		}
		tryAll(s, d)
	}
	tryAll(nil, d)
	tryAll(blocks.New(1), d)
	tryAll(blocks.New(20), d)
}
