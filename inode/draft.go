package inode

import (
	"slices"

	"janus/api"
)

// content is what one block holds.
type content [api.BlockWords]uint64

// draft is the blocks that one call changes, as they were and as they shall be. They are put in the
// store behind all that may err, so that an error has changed nothing.
type draft struct {
	store  api.Store
	sheets []*sheet
	err    api.Errno // the store's first one; then it is asked no more
}

type sheet struct {
	block    int
	was, now content
}

// get reads a block; the store's words are not kept, and may be fewer than it should have.
func get(s api.Store, block int) (content, api.Errno) {
	var c content
	words, e := s.Get(block)
	if e != api.OK {
		return c, e
	}
	copy(c[:], words)
	return c, api.OK
}

// put hands the store words that are nobody else's: it may keep them.
func put(s api.Store, block int, c content) api.Errno {
	return s.Put(block, c[:])
}

// at answers the block's words as they shall be, to be changed; behind an error they are nobody's.
func (d *draft) at(block int) *content {
	for _, x := range d.sheets {
		if x.block == block {
			return &x.now
		}
	}
	if d.err != api.OK {
		return new(content)
	}
	c, e := get(d.store, block)
	if e != api.OK {
		d.err = e
		return new(content)
	}
	x := &sheet{block, c, c}
	d.sheets = append(d.sheets, x)
	return &x.now
}

// lay puts the blocks; if the store refuses one, those ahead of it are put back.
func (d *draft) lay() api.Errno {
	if d.err != api.OK {
		return d.err
	}
	for k, x := range d.sheets {
		if e := put(d.store, x.block, x.now); e != api.OK {
			d.putBack(k)
			return e
		}
	}
	return api.OK
}

// putBack lets the first n blocks be as they were, as far as the store lets it.
func (d *draft) putBack(n int) {
	for _, x := range slices.Backward(d.sheets[:n]) {
		put(d.store, x.block, x.was)
	}
}
