package dir_test

import (
	"slices"
	"strings"
	"testing"

	"janus/api"
	"janus/blocks"
	"janus/dir"
	"janus/inode"
)

// dice is a row of numbers that is the same in each run.
type dice struct{ x uint64 }

func (d *dice) roll(n int) int {
	d.x = d.x*6364136223846793005 + 1442695040888963407
	return int((d.x >> 33) % uint64(n))
}

// text is n bytes, any of them.
func (d *dice) text(n int) string {
	b := make([]byte, n)
	for j := range b {
		b[j] = byte(d.roll(256))
	}
	return string(b)
}

// model is directories as plain lists, and files as plain texts, on a store of so many data blocks.
type model struct {
	room  int
	lists map[int][]row
	texts map[int]string
}

func (m *model) blocksLeft() int {
	left := m.room
	for _, l := range m.lists {
		left -= (len(l)*9 + 31) / 32
	}
	for _, s := range m.texts {
		left -= (len(s) + 31) / 32
	}
	return left
}

func (m *model) place(i int, name string) int {
	return slices.IndexFunc(m.lists[i], func(x row) bool { return x.name == name })
}

func (m *model) add(i int, name string, to int) api.Errno {
	l, is := m.lists[i]
	if !is {
		return api.ENOTDIR
	}
	if len(name) == 0 || len(name) > 8 || strings.ContainsAny(name, "\x00/") || to < 0 || to > 31 {
		return api.EINVAL
	}
	if m.place(i, name) >= 0 {
		return api.EEXIST
	}
	if len(l) == 21 || (len(l)*9+9+31)/32-(len(l)*9+31)/32 > m.blocksLeft() {
		return api.ENOSPC
	}
	m.lists[i] = append(l, row{name, to})
	return api.OK
}

func (m *model) remove(i int, name string) api.Errno {
	if _, is := m.lists[i]; !is {
		return api.ENOTDIR
	}
	k := m.place(i, name)
	if k < 0 {
		return api.ENOENT
	}
	m.lists[i] = slices.Delete(m.lists[i], k, k+1)
	return api.OK
}

func (m *model) walk(parts []string) (int, api.Errno) {
	i := 0
	for _, name := range parts {
		if _, is := m.lists[i]; !is {
			return 0, api.ENOTDIR
		}
		k := m.place(i, name)
		if k < 0 {
			return 0, api.ENOENT
		}
		i = m.lists[i][k].to
	}
	return i, api.OK
}

func (m *model) wantWalk(t *testing.T, s api.Store, path string) {
	t.Helper()
	parts, e := plainSplit(path)
	if e != api.OK {
		wantWalk(t, s, path, 0, e)
		wantParent(t, s, path, 0, "", e)
		return
	}
	i, e := m.walk(parts)
	wantWalk(t, s, path, i, e)
	if len(parts) == 0 {
		wantParent(t, s, path, 0, "", api.EINVAL)
		return
	}
	last := parts[len(parts)-1]
	i, e = m.walk(parts[:len(parts)-1])
	if _, is := m.lists[i]; e == api.OK && !is {
		e = api.ENOTDIR
	}
	if e != api.OK {
		i, last = 0, ""
	}
	wantParent(t, s, path, i, last, e)
}

// pair is a disk and the plain lists that it should be: directories 0, 2, 3 and 5, files 1 and 4.
type pair struct {
	d *blocks.Disk
	m *model
}

func newPair(t *testing.T, count int) *pair {
	t.Helper()
	p := &pair{blocks.New(count), &model{room: count - 12, lists: map[int][]row{0: nil, 2: nil, 3: nil, 5: nil}, texts: map[int]string{1: "", 4: ""}}}
	wantErr(t, "Format", inode.Format(p.d, count), api.OK)
	for _, kind := range []int{1, 2, 2, 1, 2} {
		inode.Alloc(p.d, kind)
	}
	return p
}

var someNames = []string{"a", "b", "ab", "abc", "abcdefgh", "\xff", "é", "€", "\xe2\x82", "A", "aa", "bb", "b ", "x1", "x2", "x3", "x4", "x5", "x6", "x7", "x8", "x9", "y1", "y2", "y3", "", "a/b", "a\x00", "123456789"}

func (p *pair) step(t *testing.T, d *dice, adds int) {
	t.Helper()
	i := []int{0, 2, 3, 5, 0, 2, 3, 5, 0, 0, 1, 6, -1, 32}[d.roll(14)]
	name := someNames[d.roll(len(someNames))]
	switch k := d.roll(20); {
	case k < adds:
		to := []int{0, 1, 2, 3, 4, 5, 31, 17, 32, -1}[d.roll(10)]
		wantAdd(t, p.d, i, name, to, p.m.add(i, name, to))
	case k < 17:
		wantRemove(t, p.d, i, name, p.m.remove(i, name))
	default:
		f := []int{1, 4}[d.roll(2)]
		text := d.text(d.roll(193))
		if (len(text)+31)/32-(len(p.m.texts[f])+31)/32 > p.m.blocksLeft() {
			return
		}
		wantErr(t, "Resize", inode.Resize(p.d, f, len(text)), api.OK)
		wantErr(t, "Write", inode.Write(p.d, f, 0, text), api.OK)
		p.m.texts[f] = text
	}
}

func (p *pair) check(t *testing.T, d *dice) {
	t.Helper()
	for i := range 8 {
		if l, is := p.m.lists[i]; is {
			wantRows(t, p.d, i, l...)
		} else if names, to := dir.List(p.d, i); len(names)+len(to) > 0 {
			t.Fatalf("List(%d) = %q, %d", i, names, to)
		}
	}
	for i, l := range p.m.lists {
		for _, name := range someNames {
			if !slices.ContainsFunc(l, func(x row) bool { return x.name == name }) {
				wantNone(t, p.d, i, name)
			}
		}
	}
	for i, text := range p.m.texts {
		if got, _ := inode.Read(p.d, i, 0, 192); got != text {
			t.Fatalf("file %d is %q, want %q", i, got, text)
		}
	}
	if a, b := inode.Left(p.d); a != 26 || b != p.m.blocksLeft() {
		t.Fatalf("Left = %d, %d, want %d, %d", a, b, 26, p.m.blocksLeft())
	}
	var path strings.Builder
	for range d.roll(7) {
		path.WriteString(strings.Repeat("/", d.roll(3)))
		path.WriteString(someNames[d.roll(len(someNames)-d.roll(3))])
		path.WriteString("/")
	}
	p.m.wantWalk(t, p.d, path.String())
}

// 16.3: any Adds and Removes by turns, where there is room and where there is little.
func TestAnyTurns(t *testing.T) {
	for run, count := range []int{13, 14, 16, 20, 24, 30, 40, 60} {
		for _, adds := range []int{5, 9, 12, 15} {
			d := &dice{uint64(run*100 + adds)}
			p := newPair(t, count)
			for range 100 {
				for range 1 + d.roll(10) {
					p.step(t, d, adds)
				}
				p.check(t, d)
			}
		}
	}
}

// Every short row of calls, of two names in two directories.
func TestEveryShortRow(t *testing.T) {
	type turn func(p *pair)
	var turns []turn
	for _, i := range []int{0, 2} {
		for _, name := range []string{"a", "ab"} {
			turns = append(turns,
				func(p *pair) { wantAdd(t, p.d, i, name, 2, p.m.add(i, name, 2)) },
				func(p *pair) { wantRemove(t, p.d, i, name, p.m.remove(i, name)) })
		}
	}
	d := &dice{5}
	var try func(row []turn, left int)
	try = func(row []turn, left int) {
		p := newPair(t, 14)
		for _, do := range row {
			do(p)
		}
		for i, l := range p.m.lists {
			wantRows(t, p.d, i, l...)
		}
		for _, path := range []string{"/a", "/ab", "/a/a", "/a/ab", "/ab/a/a", "/a/a/a/ab"} {
			p.m.wantWalk(t, p.d, path)
		}
		if left == 0 {
			p.check(t, d)
			return
		}
		for _, do := range turns {
			try(append(slices.Clone(row), do), left-1)
		}
	}
	try(nil, 4)
}

// R5: the same calls on two stores answer, and lay, the same.
func TestSameCallsSameWords(t *testing.T) {
	run := func() []uint64 {
		d := &dice{19}
		p := newPair(t, 30)
		for range 200 {
			p.step(t, d, 12)
		}
		return snap(p.d)
	}
	if !slices.Equal(run(), run()) {
		t.Error("two runs differ")
	}
}
