package exodisk

import (
	"slices"

	"janus/api"
)

// line is what the cache has of a block.
type line struct {
	words   []uint64 // nil: the block is not there
	changed bool     // since what lies below was last given these words
}

// cache is a store that keeps what it was asked for, and what it was given, ahead of another store.
type cache struct {
	below api.Store
	lines []line // one for each block of below
}

// newCache makes an empty cache of a store that has so many blocks.
func newCache(below api.Store, blocks int) cache {
	return cache{below: below, lines: make([]line, blocks)}
}

// Get answers the words of a block, which is there from now on.
func (c *cache) Get(block int) ([]uint64, api.Errno) {
	l := &c.lines[block]
	if l.words == nil {
		words, e := c.below.Get(block)
		if e != api.OK {
			return nil, e
		}
		l.words = words
	}
	return slices.Clone(l.words), api.OK
}

// look answers what Get would, but lets a block that is not there not be there.
func (c *cache) look(block int) []uint64 {
	if words := c.lines[block].words; words != nil {
		return slices.Clone(words)
	}
	words, _ := c.below.Get(block)
	return words
}

// Put lets the block be there with these words, which are not given to what lies below till sync.
func (c *cache) Put(block int, words []uint64) api.Errno {
	if len(words) != api.BlockWords {
		return api.ErrArg
	}
	c.lines[block] = line{words: slices.Clone(words), changed: true}
	return api.OK
}

// sync gives what is changed to what lies below, and answers how many blocks these were.
func (c *cache) sync() int {
	n := 0
	for block := range c.lines {
		l := &c.lines[block]
		if l.changed && c.below.Put(block, l.words) == api.OK {
			l.changed = false
			n++
		}
	}
	return n
}

// blocks answers which blocks are there, rising.
func (c *cache) blocks() []int {
	var there []int
	for block, l := range c.lines {
		if l.words != nil {
			there = append(there, block)
		}
	}
	return there
}
