package inode_test

import (
	"slices"
	"strings"
	"testing"

	"janus/api"
	"janus/blocks"
	"janus/inode"
)

const dataFrom = 12

// dice is a row of numbers that is the same in each run.
type dice struct{ x uint64 }

func (d *dice) roll(n int) int {
	d.x = d.x*6364136223846793005 + 1442695040888963407
	return int((d.x >> 33) % uint64(n))
}

func (d *dice) word() uint64 {
	return uint64(d.roll(1<<31))<<33 ^ uint64(d.roll(1<<31))
}

// text is n bytes, any of them, none 0, so that what is laid and what is not are told apart.
func (d *dice) text(n int) string {
	b := make([]byte, n)
	for j := range b {
		b[j] = byte(1 + d.roll(255))
	}
	return string(b)
}

// model is a file system as plain texts.
type model struct {
	count int
	used  [api.MaxInodes]bool
	nodes [api.MaxInodes]api.Inode // of these Kind, Links and Blocks
	texts [api.MaxInodes]string
	taken [api.MaxBlocks]bool
	rest  [api.MaxBlocks][api.BlockWords]uint64 // what is in a block that is no file's
}

func newModel(count int) *model {
	m := &model{count: count}
	m.used[0] = true
	m.nodes[0] = api.Inode{Kind: api.InodeDir, Links: 1}
	for b := range dataFrom {
		m.taken[b] = true
	}
	return m
}

func (m *model) blocksLeft() int {
	n := 0
	for b := range m.count {
		if !m.taken[b] {
			n++
		}
	}
	return n
}

func (m *model) inodesLeft() int {
	n := 0
	for _, u := range m.used {
		if !u {
			n++
		}
	}
	return n
}

func (m *model) alloc(kind int) (int, api.Errno) {
	i := slices.Index(m.used[:], false)
	if i < 0 {
		return 0, api.ENOSPC
	}
	// What was written while it was not in use is no file's any more; its blocks stay in use.
	for k := range (len(m.texts[i]) + 31) / 32 {
		copy(m.rest[m.nodes[i].Blocks[k]][:], m.blockOf(i, k))
	}
	m.texts[i] = ""
	m.used[i] = true
	m.nodes[i] = api.Inode{Kind: kind}
	return i, api.OK
}

// blockOf is the words of a file's k-th block.
func (m *model) blockOf(i, k int) []uint64 {
	l := make([]uint64, api.BlockWords)
	for w := range l {
		if p := k*32 + w; p < len(m.texts[i]) {
			l[w] = uint64(m.texts[i][p])
		}
	}
	return l
}

// setText lets the file be that text, or answers ENOSPC.
func (m *model) setText(i int, text string) api.Errno {
	has, need := (len(m.texts[i])+31)/32, (len(text)+31)/32
	if need-has > m.blocksLeft() {
		return api.ENOSPC
	}
	for k := need; k < has; k++ {
		b := m.nodes[i].Blocks[k]
		m.taken[b] = false
		m.rest[b] = [api.BlockWords]uint64{}
		m.nodes[i].Blocks[k] = 0
	}
	for k := has; k < need; k++ {
		b := slices.Index(m.taken[:], false)
		m.taken[b] = true
		m.nodes[i].Blocks[k] = b
	}
	m.texts[i] = text
	return api.OK
}

func (m *model) write(i, off int, data string) api.Errno {
	if i < 0 || i > 31 || off < 0 {
		return api.ErrArg
	}
	if off > 192 || off+len(data) > 192 {
		return api.EFBIG
	}
	if data == "" {
		return api.OK
	}
	old := m.texts[i]
	end := off + len(data)
	text := old
	if len(old) < off {
		text += strings.Repeat("\x00", off-len(old))
	}
	text = text[:off] + data
	if len(old) > end {
		text += old[end:]
	}
	return m.setText(i, text)
}

func (m *model) resize(i, size int) api.Errno {
	if i < 0 || i > 31 || size < 0 {
		return api.ErrArg
	}
	if size > 192 {
		return api.EFBIG
	}
	return m.setText(i, (m.texts[i] + strings.Repeat("\x00", 192))[:size])
}

func (m *model) free(i int) api.Errno {
	if i < 0 || i > 31 {
		return api.ErrArg
	}
	m.setText(i, "")
	m.nodes[i] = api.Inode{}
	m.used[i] = false
	return api.OK
}

func (m *model) read(i, off, n int) (string, api.Errno) {
	if i < 0 || i > 31 || off < 0 || n < 0 {
		return "", api.ErrArg
	}
	text := m.texts[i]
	text = text[min(off, len(text)):]
	return text[:min(n, len(text))], api.OK
}

func (m *model) node(i int) api.Inode {
	x := m.nodes[i]
	x.Size = len(m.texts[i])
	return x
}

// words is the words of each block, of as many as the store has.
func (m *model) words(blocks int) [][]uint64 {
	l := make([][]uint64, blocks)
	for b := range l {
		l[b] = make([]uint64, api.BlockWords)
		if b >= dataFrom {
			copy(l[b], m.rest[b][:])
		}
	}
	l[0][0], l[0][1] = 0x4A414E5553, uint64(m.count)
	for b := range m.count {
		if m.taken[b] {
			l[0][3+b/64] |= 1 << (b % 64)
		}
	}
	for i := range m.used {
		if m.used[i] {
			l[0][2] |= 1 << i
		}
		x := m.node(i)
		row := l[1+i/3][i%3*9:]
		row[0], row[1], row[2] = uint64(x.Kind), uint64(x.Links), uint64(x.Size)
		for k, b := range x.Blocks {
			row[3+k] = uint64(b)
		}
		for k := range (x.Size + 31) / 32 {
			l[x.Blocks[k]] = m.blockOf(i, k)
		}
	}
	return l
}

// pair is a disk and the model of what is on it; each call is done to both.
type pair struct {
	t *testing.T
	d *blocks.Disk
	m *model
}

// newPair formats a disk of so many blocks on which words of all kinds lie.
func newPair(t *testing.T, count int) *pair {
	t.Helper()
	d := dirty(count)
	if e := inode.Format(d, count); e != api.OK {
		t.Fatalf("Format(%d) = %d", count, e)
	}
	p := &pair{t, d, newModel(count)}
	for b := dataFrom; b < count; b++ {
		copy(p.m.rest[b][:], dirt(b))
	}
	p.check()
	return p
}

// dirt is what lay in a block ahead of Format: no word of it is 0.
func dirt(b int) []uint64 {
	d := &dice{uint64(b)}
	l := make([]uint64, api.BlockWords)
	for w := range l {
		l[w] = d.word() | 1
	}
	return l
}

func dirty(count int) *blocks.Disk {
	d := blocks.New(count)
	for b := range count {
		d.Put(b, dirt(b))
	}
	return d
}

// check asks for all that can be seen: each word of each block, each inode, each text, what is left.
func (p *pair) check() {
	p.t.Helper()
	for b, want := range p.m.words(p.d.Len()) {
		if got, _ := p.d.Get(b); !slices.Equal(got, want) {
			p.t.Fatalf("block %d is %x, want %x", b, got, want)
		}
	}
	for i := range api.MaxInodes {
		if x, e := inode.Get(p.d, i); e != api.OK || x != p.m.node(i) {
			p.t.Fatalf("Get(%d) = %v, %d, want %v", i, x, e, p.m.node(i))
		}
		if s, e := inode.Read(p.d, i, 0, 192); e != api.OK || s != p.m.texts[i] {
			p.t.Fatalf("Read(%d, 0, 192) = %q, %d, want %q", i, s, e, p.m.texts[i])
		}
	}
	a, b := inode.Left(p.d)
	if a != p.m.inodesLeft() || b != p.m.blocksLeft() {
		p.t.Fatalf("Left() = %d, %d, want %d, %d", a, b, p.m.inodesLeft(), p.m.blocksLeft())
	}
}

func (p *pair) alloc(kind int) int {
	p.t.Helper()
	i, e := inode.Alloc(p.d, kind)
	wantI, wantE := p.m.alloc(kind)
	if i != wantI || e != wantE {
		p.t.Fatalf("Alloc(%d) = %d, %d, want %d, %d", kind, i, e, wantI, wantE)
	}
	p.check()
	return i
}

func (p *pair) free(i int) {
	p.t.Helper()
	if e, want := inode.Free(p.d, i), p.m.free(i); e != want {
		p.t.Fatalf("Free(%d) = %d, want %d", i, e, want)
	}
	p.check()
}

func (p *pair) write(i, off int, data string) api.Errno {
	p.t.Helper()
	e, want := inode.Write(p.d, i, off, data), p.m.write(i, off, data)
	if e != want {
		p.t.Fatalf("Write(%d, %d, %d bytes) = %d, want %d", i, off, len(data), e, want)
	}
	p.check()
	return e
}

func (p *pair) resize(i, size int) api.Errno {
	p.t.Helper()
	e, want := inode.Resize(p.d, i, size), p.m.resize(i, size)
	if e != want {
		p.t.Fatalf("Resize(%d, %d) = %d, want %d", i, size, e, want)
	}
	p.check()
	return e
}

func (p *pair) read(i, off, n int) {
	p.t.Helper()
	s, e := inode.Read(p.d, i, off, n)
	want, wantE := p.m.read(i, off, n)
	if s != want || e != wantE {
		p.t.Fatalf("Read(%d, %d, %d) = %q, %d, want %q, %d", i, off, n, s, e, want, wantE)
	}
}

// step does one call that the dice choose; most of them on few inodes, so that files meet.
func (p *pair) step(d *dice) {
	p.t.Helper()
	i := d.roll(6)
	if d.roll(20) == 0 {
		i = d.roll(36) - 2
	}
	switch d.roll(8) {
	case 0:
		p.alloc(d.roll(3))
	case 1:
		p.free(i)
	case 2, 3, 4:
		p.write(i, d.roll(200)-2, d.text(d.roll(1+d.roll(200))))
	case 5:
		p.resize(i, d.roll(200)-3)
	case 6:
		p.read(i, d.roll(200)-2, d.roll(200)-2)
	case 7:
		p.put(i, d)
	}
}

// stepInUse does one call that the dice choose, on inodes in use alone.
func (p *pair) stepInUse(d *dice) {
	p.t.Helper()
	i := d.roll(6)
	if !p.m.used[i] {
		p.alloc(api.InodeFile)
		return
	}
	switch d.roll(4) {
	case 0:
		p.free(i)
	case 1:
		p.resize(i, d.roll(193))
	default:
		off := d.roll(193)
		p.write(i, off, d.text(d.roll(193-off)))
	}
}

// put changes what a layer above changes by itself.
func (p *pair) put(i int, d *dice) {
	p.t.Helper()
	x, e := inode.Get(p.d, i)
	if e != api.OK {
		return
	}
	x.Kind, x.Links = d.roll(3), d.roll(1000)
	if e := inode.Put(p.d, i, x); e != api.OK {
		p.t.Fatalf("Put(%d) = %d", i, e)
	}
	p.m.nodes[i].Kind, p.m.nodes[i].Links = x.Kind, x.Links
	p.check()
}

// 15.3: files by turns, against plain texts, where blocks are plenty, few and none.
func TestRunsAgainstTexts(t *testing.T) {
	for _, count := range []int{13, 14, 18, 20, 30, 63, 64, 65, 80} {
		d := &dice{uint64(count)}
		for range 4 {
			p := newPair(t, count)
			for range 150 {
				p.step(d)
			}
		}
	}
}

// 15.3: all rows of three calls of a few kinds, on two files in three blocks.
func TestShortRows(t *testing.T) {
	calls := []func(p *pair){
		func(p *pair) { p.write(1, 0, "a") },
		func(p *pair) { p.write(1, 31, "bcd") },
		func(p *pair) { p.write(1, 70, "e") },
		func(p *pair) { p.write(2, 5, "fg") },
		func(p *pair) { p.write(2, 64, "h") },
		func(p *pair) { p.resize(1, 32) },
		func(p *pair) { p.resize(1, 33) },
		func(p *pair) { p.resize(2, 3) },
		func(p *pair) { p.resize(2, 64) },
		func(p *pair) { p.free(1) },
		func(p *pair) { p.free(2) },
		func(p *pair) { p.alloc(1) },
	}
	for a := range calls {
		for b := range calls {
			for c := range calls {
				p := newPair(t, 15)
				for _, k := range []int{a, b, c} {
					calls[k](p)
				}
			}
		}
	}
}

// 15.3: whatever is done to inodes in use, no block is two inodes', and each in use from 12 on is one's.
func TestNoBlockIsTwoInodes(t *testing.T) {
	d := &dice{7}
	p := newPair(t, 26)
	for range 600 {
		p.stepInUse(d)
		owner := make(map[int]int)
		for i := range api.MaxInodes {
			x, _ := inode.Get(p.d, i)
			for k, b := range x.Blocks {
				if k >= (x.Size+31)/32 {
					if b != 0 {
						t.Fatalf("inode %d of size %d has block %d", i, x.Size, b)
					}
					continue
				}
				if j, there := owner[b]; there {
					t.Fatalf("block %d is that of inodes %d and %d", b, j, i)
				}
				owner[b] = i
			}
		}
		if _, left := inode.Left(p.d); left != 26-12-len(owner) {
			t.Fatalf("%d blocks are left, %d are files'", left, len(owner))
		}
	}
}
