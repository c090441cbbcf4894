package inode

import (
	"janus/api"
	"janus/bitmap"
)

// Which blocks there are, and where things stand in them.
const (
	headBlock  = 0
	nodeBlocks = 1 // from this one on
	firstData  = 12
	minBlocks  = firstData + 1

	magic     = 0x4A414E5553
	magicWord = 0
	countWord = 1
	inodeMap  = 2
	blockMap  = 3

	nodeWords = 3 + api.FileBlocks
	nodesIn   = 3 // a block
	root      = 0
)

// head is what block 0 says: which inodes and which blocks are in use.
type head struct {
	inodes, blocks *bitmap.Map
}

// newHead is that of a new file system.
func newHead(blocks int) head {
	h := head{bitmap.New(api.MaxInodes), bitmap.New(blocks)}
	h.inodes.Mark(root, true)
	for b := range firstData {
		h.blocks.Mark(b, true)
	}
	return h
}

// headOf reads a head; what no call of this package laid is refused.
func headOf(c *content) (head, api.Errno) {
	if c[magicWord] != magic || c[countWord] < minBlocks || c[countWord] > api.MaxBlocks {
		return head{}, api.ErrArg
	}
	count := int(c[countWord])
	inodes, e := bitmap.Of(api.MaxInodes, c[inodeMap:blockMap])
	if e != api.OK {
		return head{}, e
	}
	blocks, e := bitmap.Of(count, c[blockMap:blockMap+(count+63)/64])
	if e != api.OK {
		return head{}, e
	}
	for b := range firstData {
		if !blocks.Used(b) { // else it could be had as a data block, and written over
			return head{}, api.ErrArg
		}
	}
	return head{inodes, blocks}, api.OK
}

func (h head) words() content {
	c := content{magicWord: magic, countWord: uint64(h.blocks.Len())}
	copy(c[inodeMap:], h.inodes.Words())
	copy(c[blockMap:], h.blocks.Words())
	return c
}

// isData answers whether a file may have the block.
func (h head) isData(b int) bool {
	return b >= firstData && b < h.blocks.Len()
}

func isInode(i int) bool {
	return i >= 0 && i < api.MaxInodes
}

func (d *draft) head() (head, api.Errno) {
	c := d.at(headBlock)
	if d.err != api.OK {
		return head{}, d.err
	}
	return headOf(c)
}

func (d *draft) setHead(h head) {
	*d.at(headBlock) = h.words()
}

// row is the words of an inode, in their block.
func (d *draft) row(i int) []uint64 {
	c := d.at(nodeBlocks + i/nodesIn)
	return c[i%nodesIn*nodeWords:][:nodeWords]
}

func (d *draft) inode(i int) api.Inode {
	row := d.row(i)
	x := api.Inode{Kind: int(row[0]), Links: int(row[1]), Size: int(row[2])}
	for k := range x.Blocks {
		x.Blocks[k] = int(row[3+k])
	}
	return x
}

func (d *draft) setInode(i int, x api.Inode) {
	row := d.row(i)
	row[0], row[1], row[2] = uint64(x.Kind), uint64(x.Links), uint64(x.Size)
	for k, b := range x.Blocks {
		row[3+k] = uint64(b)
	}
}
