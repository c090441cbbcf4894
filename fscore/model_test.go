package fscore_test

import (
	"slices"
	"strconv"
	"strings"
	"testing"

	"janus/api"
	"janus/blocks"
	"janus/dir"
	"janus/fscore"
	"janus/inode"
)

// dice is a row of numbers that is the same in each run.
type dice struct{ x uint64 }

func (d *dice) roll(n int) int {
	d.x = d.x*6364136223846793005 + 1442695040888963407
	return int((d.x >> 33) % uint64(n))
}

// text is n bytes, any of them.
func (d *dice) text(n int) string {
	b := make([]byte, n)
	for j := range b {
		b[j] = byte(d.roll(256))
	}
	return string(b)
}

// thing is a file or a directory of the model.
type thing struct {
	isDir bool
	links int
	text  string
	names []string
	to    []int
}

func (x *thing) size() int {
	if x.isDir {
		return 9 * len(x.names)
	}
	return len(x.text)
}

// model is a plain tree: things by their inodes' numbers, on a store of so many data blocks.
type model struct {
	room   int
	things map[int]*thing
}

func newModel(room int) *model {
	return &model{room, map[int]*thing{0: {isDir: true, links: 1}}}
}

func (m *model) blocksLeft() int {
	left := m.room
	for _, x := range m.things {
		left -= (x.size() + 31) / 32
	}
	return left
}

// split is what chapter 16 says of paths.
func split(path string) ([]string, api.Errno) {
	if path == "" {
		return nil, api.ENOENT
	}
	if len(path) > 32 {
		return nil, api.ENAMETOOLONG
	}
	var l []string
	for p := range strings.SplitSeq(path, "/") {
		if len(p) > 8 {
			return nil, api.ENAMETOOLONG
		}
		if strings.Contains(p, "\x00") {
			return nil, api.EINVAL
		}
		if p != "" {
			l = append(l, p)
		}
	}
	return l, api.OK
}

// way answers the inodes that a path's parts lead through, the root first.
func (m *model) way(parts []string) ([]int, api.Errno) {
	at := []int{0}
	for _, name := range parts {
		x := m.things[at[len(at)-1]]
		if !x.isDir {
			return nil, api.ENOTDIR
		}
		k := slices.Index(x.names, name)
		if k < 0 {
			return nil, api.ENOENT
		}
		at = append(at, x.to[k])
	}
	return at, api.OK
}

func (m *model) walk(path string) (int, api.Errno) {
	parts, e := split(path)
	if e != api.OK {
		return 0, e
	}
	l, e := m.way(parts)
	if e != api.OK {
		return 0, e
	}
	return l[len(l)-1], api.OK
}

// parent answers the inodes down to a path's directory, and the name in it.
func (m *model) parent(path string) ([]int, string, api.Errno) {
	parts, e := split(path)
	if e != api.OK {
		return nil, "", e
	}
	if len(parts) == 0 {
		return nil, "", api.EINVAL
	}
	last := len(parts) - 1
	l, e := m.way(parts[:last])
	if e != api.OK {
		return nil, "", e
	}
	if !m.things[l[len(l)-1]].isDir {
		return nil, "", api.ENOTDIR
	}
	return l, parts[last], api.OK
}

func (m *model) find(i int, name string) (int, bool) {
	x := m.things[i]
	k := slices.Index(x.names, name)
	if k < 0 {
		return 0, false
	}
	return x.to[k], true
}

// hasRoom answers whether a directory has room for a name more.
func (m *model) hasRoom(i int) bool {
	n := len(m.things[i].names)
	return n < 21 && (!grows(n) || m.blocksLeft() > 0)
}

func (m *model) add(i int, name string, to int) {
	x := m.things[i]
	x.names, x.to = append(x.names, name), append(x.to, to)
}

func (m *model) remove(i int, name string) {
	x := m.things[i]
	k := slices.Index(x.names, name)
	x.names, x.to = slices.Delete(x.names, k, k+1), slices.Delete(x.to, k, k+1)
}

func (m *model) fresh(path string, isDir bool) (int, api.Errno) {
	l, name, e := m.parent(path)
	if e != api.OK {
		return 0, e
	}
	at := l[len(l)-1]
	if i, there := m.find(at, name); there {
		switch {
		case isDir:
			return 0, api.EEXIST
		case m.things[i].isDir:
			return 0, api.EISDIR
		}
		return i, api.OK
	}
	if len(m.things) == 32 || !m.hasRoom(at) {
		return 0, api.ENOSPC
	}
	i := 0
	for m.things[i] != nil {
		i++
	}
	m.things[i] = &thing{isDir: isDir, links: 1}
	m.add(at, name, i)
	return i, api.OK
}

func (m *model) lose(i int, open []int) {
	x := m.things[i]
	x.links--
	if x.links == 0 && !slices.Contains(open, i) {
		delete(m.things, i)
	}
}

func (m *model) unlink(path string, open []int) api.Errno {
	i, e := m.walk(path)
	if e != api.OK {
		return e
	}
	if m.things[i].isDir {
		return api.EISDIR
	}
	l, name, _ := m.parent(path)
	m.remove(l[len(l)-1], name)
	m.lose(i, open)
	return api.OK
}

func (m *model) link(from, to string) api.Errno {
	i, e := m.walk(from)
	if e != api.OK {
		return e
	}
	if m.things[i].isDir {
		return api.EISDIR
	}
	l, name, e := m.parent(to)
	if e != api.OK {
		return e
	}
	at := l[len(l)-1]
	if _, there := m.find(at, name); there {
		return api.EEXIST
	}
	if !m.hasRoom(at) {
		return api.ENOSPC
	}
	m.add(at, name, i)
	m.things[i].links++
	return api.OK
}

func (m *model) rename(from, to string, open []int) api.Errno {
	l, oldName, e := m.parent(from)
	if e != api.OK {
		return e
	}
	i, e := m.walk(from)
	if e != api.OK {
		return e
	}
	way, name, e := m.parent(to)
	if e != api.OK {
		return e
	}
	source, target := l[len(l)-1], way[len(way)-1]
	if m.things[i].isDir && slices.Contains(way, i) {
		return api.EINVAL
	}
	if old, there := m.find(target, name); there {
		if old == i {
			return api.OK
		}
		if m.things[i].isDir || m.things[old].isDir {
			return api.EEXIST
		}
		m.remove(target, name)
		m.lose(old, open)
	}
	if source != target && !m.hasRoom(target) {
		return api.ENOSPC
	}
	m.remove(source, oldName)
	m.add(target, name, i)
	return api.OK
}

func (m *model) close(i int) {
	if x := m.things[i]; x != nil && !x.isDir && x.links == 0 {
		delete(m.things, i)
	}
}

func (m *model) tree(i int, path string) []api.Node {
	var l []api.Node
	x := m.things[i]
	for _, name := range slices.Sorted(slices.Values(x.names)) {
		k, _ := m.find(i, name)
		y := m.things[k]
		l = append(l, api.Node{Path: path + "/" + name, Dir: y.isDir, Data: y.text})
		if y.isDir {
			l = append(l, m.tree(k, path+"/"+name)...)
		}
	}
	return l
}

// nameless is the files that no name leads to: they are open.
func (m *model) nameless() []int {
	var l []int
	for i, x := range m.things {
		if x.links == 0 {
			l = append(l, i)
		}
	}
	return l
}

// pair is a disk, and the plain tree that it should be.
type pair struct {
	d *blocks.Disk
	m *model
}

func newPair(t *testing.T, count int) *pair {
	return &pair{made(t, count), newModel(count - 12)}
}

func (p *pair) check(t *testing.T) {
	t.Helper()
	wantTree(t, p.d, p.m.tree(0, "")...)
	wantLeft(t, p.d, 32-len(p.m.things), p.m.blocksLeft())
	for i := range 32 {
		x := p.m.things[i]
		switch {
		case x == nil:
			wantFree(t, p.d, i)
		case !x.isDir:
			wantNode(t, p.d, i, api.InodeFile, x.links, x.text)
		default:
			names, to := dir.List(p.d, i)
			if y, _ := inode.Get(p.d, i); !slices.Equal(names, x.names) || !slices.Equal(to, x.to) || y.Kind != api.InodeDir || y.Links != 1 {
				t.Fatalf("directory %d has %q, %d, want %q, %d; it is %v", i, names, to, x.names, x.to, y)
			}
		}
	}
	wantSound(t, p.d, p.m.nameless()...)
}

// path is one that mostly leads somewhere, or nearly.
func (p *pair) path(d *dice, names []string) string {
	switch d.roll(30) {
	case 0:
		return []string{"", "/", "//", "/123456789", "/a\x00", strings.Repeat("/a", 17)}[d.roll(6)]
	case 1, 2, 3:
		return "/" + names[d.roll(len(names))] + "/" + names[d.roll(len(names))] + "/" + names[d.roll(len(names))]
	}
	l := p.m.tree(0, "")
	if len(l) == 0 {
		return "/" + names[d.roll(len(names))]
	}
	x := l[d.roll(len(l))]
	switch k := d.roll(8); {
	case k < 2:
		return "/" + names[d.roll(len(names))]
	case k < 5 && x.Dir || k == 5:
		return x.Path + "/" + names[d.roll(len(names))]
	}
	return x.Path
}

// step does one call on both, by the dice. The files in open are open.
func (p *pair) step(t *testing.T, d *dice, names []string, open []int) {
	t.Helper()
	path, to := p.path(d, names), p.path(d, names)
	switch d.roll(16) {
	case 0, 1, 2:
		i, e := p.m.fresh(path, false)
		wantCreate(t, p.d, path, i, e)
	case 3, 4:
		_, e := p.m.fresh(path, true)
		wantMkdir(t, p.d, path, e)
	case 5, 6:
		wantUnlink(t, p.d, path, open, p.m.unlink(path, open))
	case 7, 8, 9:
		wantLink(t, p.d, path, to, p.m.link(path, to))
	case 10, 11, 12, 13:
		wantRename(t, p.d, path, to, open, p.m.rename(path, to, open))
	case 14:
		i := d.roll(36) - 2
		p.m.close(i)
		fscore.Close(p.d, i)
	case 15:
		p.write(t, d)
	}
}

// write lets a file have other bytes, if there are blocks for them.
func (p *pair) write(t *testing.T, d *dice) {
	t.Helper()
	i := d.roll(32)
	x := p.m.things[i]
	if x == nil || x.isDir {
		return
	}
	text := d.text(d.roll(193))
	if (len(text)+31)/32-(len(x.text)+31)/32 > p.m.blocksLeft() {
		return
	}
	wantErr(t, "Resize", inode.Resize(p.d, i, len(text)), api.OK)
	wantErr(t, "Write", inode.Write(p.d, i, 0, text), api.OK)
	x.text = text
}

// Any calls by turns, where there is room and where there is little.
func TestAnyTurns(t *testing.T) {
	few := []string{"a", "b", "ab"}
	many := []string{"\xff", "é", "a!", "12345678"}
	for n := range 22 {
		many = append(many, "m"+strconv.Itoa(n))
	}
	for run, count := range []int{13, 14, 16, 20, 24, 30, 45, 60, 200} {
		for k, names := range [][]string{few, many} {
			d := &dice{uint64(run*10 + k)}
			p := newPair(t, count)
			for range 250 {
				open := []int{d.roll(32), d.roll(32), d.roll(100) - 50}[:d.roll(4)]
				for range 1 + d.roll(4) {
					p.step(t, d, names, open)
				}
				p.check(t)
			}
			p.wantAgain(t)
		}
	}
}

// wantAgain makes the tree once more, elsewhere: it is the same, if it can be made.
func (p *pair) wantAgain(t *testing.T) {
	t.Helper()
	tree := fscore.Tree(p.d)
	other := blocks.New(1024)
	switch e := fscore.Make(other, 1024, tree); e {
	case api.OK:
		wantTree(t, other, tree...)
	case api.ENOSPC, api.ENAMETOOLONG: // names of one file are files of their own there; paths may have grown
	default:
		t.Fatalf("Make = %d", e)
	}
}

// Every short row of calls on two names, one of which may be a directory with the same two.
func TestEveryShortRow(t *testing.T) {
	type turn func(p *pair)
	var turns []turn
	paths := []string{"/a", "/b", "/a/b"}
	for _, path := range paths {
		turns = append(turns,
			func(p *pair) { i, e := p.m.fresh(path, false); wantCreate(t, p.d, path, i, e) },
			func(p *pair) { _, e := p.m.fresh(path, true); wantMkdir(t, p.d, path, e) },
			func(p *pair) { wantUnlink(t, p.d, path, []int{1}, p.m.unlink(path, []int{1})) })
		for _, to := range paths {
			if to != path {
				turns = append(turns,
					func(p *pair) { wantRename(t, p.d, path, to, nil, p.m.rename(path, to, nil)) },
					func(p *pair) { wantLink(t, p.d, path, to, p.m.link(path, to)) })
			}
		}
	}
	turns = append(turns, func(p *pair) { p.m.close(1); fscore.Close(p.d, 1) })
	var try func(row []turn, left int)
	try = func(row []turn, left int) {
		if left == 0 {
			p := newPair(t, 14)
			for _, do := range row {
				do(p)
			}
			p.check(t)
			return
		}
		for _, do := range turns {
			try(append(slices.Clone(row), do), left-1)
		}
	}
	try(nil, 3)
}

// R5: the same calls on two stores answer, and lay, the same.
func TestSameCallsSameWords(t *testing.T) {
	run := func() []uint64 {
		d := &dice{19}
		p := newPair(t, 30)
		for range 300 {
			p.step(t, d, []string{"a", "b", "c", "d"}, nil)
		}
		return snap(p.d)
	}
	if !slices.Equal(run(), run()) {
		t.Error("two runs differ")
	}
}
