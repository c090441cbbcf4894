package unix_test

import (
	"slices"
	"testing"

	"janus/api"
	"janus/blocks"
	"janus/exodisk"
	"janus/inode"
	"janus/unix"
)

// inodeOf is an inode and its bytes.
func inodeOf(t *testing.T, s api.Store, i int) (api.Inode, string) {
	t.Helper()
	x, e := inode.Get(s, i)
	if e != api.OK {
		t.Fatalf("Get(%d) answers %d", i, e)
	}
	data, e := inode.Read(s, i, 0, api.MaxFile)
	if e != api.OK {
		t.Fatalf("Read(%d) answers %d", i, e)
	}
	return x, data
}

// furnished is a world where each of onDisk's calls is no error, as long as the disk is none; process 2 has two files without names, one of which is long.
func furnished(t *testing.T) *world {
	t.Helper()
	w := fresh(t)
	for _, x := range append(begun(1), open(1, "/f", 0).gives(3), open(1, "/f", 4).gives(4), open(2, "/long", 0).gives(3), open(2, "/d/g", 0).gives(4), unlink(1, "/long").ok(), unlink(1, "/d/g").ok()) {
		if got := x.on(w); !got.same(x.want) {
			t.Fatalf("%v answers %v", x.call, got)
		}
	}
	return w
}

// onDisk is calls that ask the disk for something.
func onDisk() []call {
	return []call{
		exec(1, "/prog"), open(1, "/prog", 0), open(1, "/prog", 2), open(1, "/d/new", 1), open(1, "/new", 7), read(1, 3, 9), write(1, 3, "abc"), write(1, 3, longText[:150]), write(1, 4, "abc"),
		unlink(1, "/f"), unlink(1, "/dead"), mkdir(1, "/d/new"), link(1, "/f", "/d/new"), rename(1, "/f", "/d/new"), rename(1, "/dead", "/f"), rename(1, "/f", "/dead"), closes(2, 3), closes(2, 4), exit(2, 5), killed(2, 5),
	}
}

// tellsDisk says whether a call answers what the disk does: an end of a file is none's to tell.
func (c call) tellsDisk() bool {
	return c.name == "Do" && c.x.N != api.SysClose && c.x.N != api.SysExit
}

// faulty is a store that fails, or panics, at one of its calls, or from that one on.
type faulty struct {
	*blocks.Disk
	calls, at       int
	forever, panics bool
}

const broken api.Errno = 77

func (f *faulty) fails() bool {
	f.calls++
	if f.calls != f.at && (!f.forever || f.calls < f.at) {
		return false
	}
	if f.panics {
		panic("a store's own")
	}
	return true
}

func (f *faulty) Get(b int) ([]uint64, api.Errno) {
	if f.fails() {
		return slices.Repeat([]uint64{2}, 32), broken // an error's words must not be taken
	}
	return f.Disk.Get(b)
}

func (f *faulty) Put(b int, words []uint64) api.Errno {
	if f.fails() {
		return broken
	}
	return f.Disk.Put(b, words)
}

// doOn makes the call on another store.
func (c call) doOn(w *world, s api.Store) (a answer) {
	if c.name == "Kill" {
		w.c.Kill(s, c.pid, c.n)
		return a
	}
	a.ret, a.shown, a.taken, a.waits = w.c.Do(s, c.pid, c.x, w.in)
	return a
}

// An error of the disk is one of the call, whichever of its calls it is answered to; it leaves the core as it is, and beside it nothing is told. Ends are ends, whatever the disk says.
func TestStoreThatFails(t *testing.T) {
	for _, c := range onDisk() {
		whole := furnished(t)
		plain := &faulty{Disk: whole.d}
		if got := c.doOn(whole, plain); got.ret.Err != api.OK || plain.calls == 0 {
			t.Fatalf("%v answers %v", c, got)
		}
		after := whole.c.Encode()
		for at := 1; at <= plain.calls; at++ {
			for kind := range 4 {
				w := furnished(t)
				f := &faulty{Disk: w.d, at: at, forever: kind%2 == 1, panics: kind > 1}
				want := after
				if c.tellsDisk() {
					want = w.c.Encode()
				}
				got := c.doOn(w, f)
				if c.tellsDisk() && (got.ret.Err == api.OK || !got.same(fails(got.ret.Err))) || !c.tellsDisk() && !got.same(answer{}) {
					t.Errorf("%v with an error at call %d answers %v", c, at, got)
				}
				if !slices.Equal(w.c.Encode(), want) {
					t.Errorf("%v with an error at call %d: the core is another", c, at)
				}
			}
		}
	}
}

// None, and what is no file system: nothing panics, and each call ends.
func TestStoresThatAreNone(t *testing.T) {
	var none *blocks.Disk
	var typed *faulty
	for _, s := range []api.Store{nil, none, typed, blocks.New(1), blocks.New(20), &blocks.Disk{}, odd{blocks.New(20), -1}, odd{furnished(t).d, 3}, odd{furnished(t).d, 64}, odd{furnished(t).d, 0}} {
		for _, c := range onDisk() {
			w := furnished(t)
			c.doOn(w, s)
			wantBack(t, w.c)
			for _, next := range usesUp() {
				if next.name == "Do" || next.name == "Kill" {
					next.doOn(w, s)
				}
			}
			wantBack(t, w.c)
		}
		w := furnished(t)
		for _, c := range []call{write(1, 1, "x"), read(1, 0, 3), write(1, 3, ""), read(1, 3, 0), fork(1), getpid(1), pipe(2), closes(1, 3)} {
			if got := c.doOn(w, s); got.ret.Err != api.OK && c.x.N != api.SysPipe {
				t.Errorf("%v answers %v, and asks the disk for nothing", c, got)
			}
		}
	}
}

// odd is a store that answers so many words, of those that it has and more.
type odd struct {
	*blocks.Disk
	n int
}

func (o odd) Get(b int) ([]uint64, api.Errno) {
	words, e := o.Disk.Get(b)
	if e != api.OK || o.n < 0 {
		return nil, e
	}
	return append(words, words...)[:o.n], e
}

// keeper is a store that keeps the very lists that it is handed, and hands them out, with room behind their ends; it knows what should be in them.
type keeper struct {
	lists, copies [][]uint64
}

func newKeeper(plain *blocks.Disk) *keeper {
	k := &keeper{}
	for b := range plain.Len() {
		words, _ := plain.Get(b)
		k.lists = append(k.lists, append(words, 1, 2, 3)[:32])
		k.copies = append(k.copies, slices.Clone(words))
	}
	return k
}

func (k *keeper) Get(b int) ([]uint64, api.Errno) {
	if b < 0 || b >= len(k.lists) {
		return nil, api.ErrArg
	}
	return k.lists[b], api.OK
}

func (k *keeper) Put(b int, words []uint64) api.Errno {
	if b < 0 || b >= len(k.lists) || len(words) != 32 {
		return api.ErrArg
	}
	k.lists[b] = words
	k.copies[b] = slices.Clone(words)
	return api.OK
}

// R4: lists that the store hands out are not changed, and those that it is handed are its own.
func TestListsOfTheStore(t *testing.T) {
	for _, c := range onDisk() {
		w, other := furnished(t), furnished(t)
		k := newKeeper(other.d)
		for _, next := range append([]call{c}, append(onDisk(), usesUp()...)...) {
			if next.name != "Do" && next.name != "Kill" {
				continue
			}
			if got, want := next.doOn(w, k), next.doOn(other, other.d); !got.same(want) {
				t.Fatalf("%v answers %v, want %v", next, got, want)
			}
			for b, l := range k.lists {
				if !slices.Equal(l, k.copies[b]) {
					t.Fatalf("%v: block %d was changed without a Put", next, b)
				}
			}
		}
	}
}

// A file system may lie in an extent, too; who may only read it can't write.
func TestOnAnExtent(t *testing.T) {
	k := exodisk.New(80)
	slot, _ := k.Alloc(1, 10, 60)
	w, plain := furnished(t), furnished(t)
	v := k.View(1, slot)
	for b := range 60 {
		words, _ := plain.d.Get(b)
		v.Put(b, words)
	}
	for _, c := range onDisk() {
		if got, want := c.doOn(w, v), c.doOn(plain, plain.d); !got.same(want) {
			t.Errorf("%v answers %v, want %v", c, got, want)
		}
	}
	other, _ := k.Grant(1, slot, 2, api.RightRead)
	c := unix.New()
	c.Begin(1)
	if ret, _, _, _ := c.Do(k.View(2, other), 1, api.Call{N: api.SysMkdir, Text: "/mine"}, ""); ret != (api.Ret{Err: api.ErrCap}) {
		t.Errorf("Mkdir answers %v", ret)
	}
	if ret, _, _, _ := c.Do(k.View(2, other), 1, api.Call{N: api.SysExec, Text: "/prog"}, ""); ret != (api.Ret{Data: program}) {
		t.Errorf("Exec answers %v", ret)
	}
}
