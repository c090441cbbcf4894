package inode

import "janus/api"

// file is an inode that a call works on, with its store's head and the blocks that it changes.
type file struct {
	d    *draft
	h    head
	i    int
	node api.Inode
}

func open(s api.Store, i int) (*file, api.Errno) {
	d := &draft{store: s}
	h, e := d.head()
	if e != api.OK {
		return nil, e
	}
	x := d.inode(i)
	if d.err != api.OK {
		return nil, d.err
	}
	x.Size = min(max(x.Size, 0), api.MaxFile) // Put lays any number
	return &file{d, h, i, x}, api.OK
}

func (f *file) close() api.Errno {
	f.d.setHead(f.h)
	f.d.setInode(f.i, f.node)
	return f.d.lay()
}

// has answers whether the file has its k-th block: Put may have laid what is none.
func (f *file) has(k int) bool {
	return f.h.isData(f.node.Blocks[k])
}

// take lets the lowest block that is free be the file's k-th.
func (f *file) take(k int) {
	b := f.h.blocks.Take()
	f.node.Blocks[k] = b
	*f.d.at(b) = content{} // whatever was there ahead of Format
}

// drop lets the file have no k-th block, and its words be 0, as all that are no data's.
func (f *file) drop(k int) {
	if f.has(k) {
		b := f.node.Blocks[k]
		f.h.blocks.Mark(b, false)
		*f.d.at(b) = content{}
	}
	f.node.Blocks[k] = 0
}

// lacks answers how many of the first n blocks the file has not.
func (f *file) lacks(n int) int {
	c := 0
	for k := range n {
		if !f.has(k) {
			c++
		}
	}
	return c
}

// resize lets the file have as many blocks as hold size words, and what is new of them be 0.
func (f *file) resize(size int) api.Errno {
	need := (size + api.BlockWords - 1) / api.BlockWords
	if f.lacks(need) > f.h.blocks.Left() {
		return api.ENOSPC
	}
	for k := range f.node.Blocks {
		if k >= need {
			f.drop(k)
		} else if !f.has(k) {
			f.take(k)
		}
	}
	f.clearFrom(min(size, f.node.Size), need)
	f.node.Size = size
	return api.OK
}

// clearFrom lets the words from that one on be 0, in the file's first n blocks.
func (f *file) clearFrom(from, n int) {
	for k := from / api.BlockWords; k < n; k++ {
		c := f.d.at(f.node.Blocks[k])
		clear(c[max(from-k*api.BlockWords, 0):])
	}
}

// write lays data from off on, where the file must have blocks.
func (f *file) write(off int, data string) {
	for j := range len(data) {
		c := f.d.at(f.node.Blocks[(off+j)/api.BlockWords])
		c[(off+j)%api.BlockWords] = uint64(data[j])
	}
}

// block answers the file's k-th block; where it has none, 0s.
func (f *file) block(k int) (content, api.Errno) {
	if !f.has(k) {
		return content{}, api.OK
	}
	return get(f.d.store, f.node.Blocks[k])
}

// read answers the n bytes from off on, all of which must be the file's.
func (f *file) read(off, n int) (string, api.Errno) {
	var text []byte
	if n <= 0 {
		goto done
	}
	for k := off / api.BlockWords; ; k++ {
		c, e := f.block(k)
		if e != api.OK {
			return "", e
		}
		for _, w := range c[max(off-k*api.BlockWords, 0):] {
			text = append(text, byte(w))
			if len(text) == n {
				goto done // within a block: no further one is read
			}
		}
	}
done:
	return string(text), api.OK
}
