package fscore

import (
	"slices"

	"janus/api"
)

// draft is a store ahead of another one: what is put in it stands in it alone until it is laid. So
// what gives up on its way has changed nothing, and what is only tried is never laid.
type draft struct {
	under  api.Store
	leaves []*leaf   // the blocks that were asked for, in that order
	err    api.Errno // the first that the store answered
}

// leaf is a block as it is in the store, and as it shall be.
type leaf struct {
	block     int
	old, next [api.BlockWords]uint64
}

// Get answers a block's words as they shall be.
func (d *draft) Get(block int) ([]uint64, api.Errno) {
	x, e := d.leaf(block)
	if e != api.OK {
		return nil, e
	}
	return slices.Clone(x.next[:]), api.OK
}

// Put says what a block's words shall be.
func (d *draft) Put(block int, words []uint64) api.Errno {
	x, e := d.leaf(block)
	if e != api.OK {
		return e
	}
	copy(x.next[:], words)
	return api.OK
}

// leaf answers the block's leaf, and asks the store for what it has not.
func (d *draft) leaf(block int) (*leaf, api.Errno) {
	for _, x := range d.leaves {
		if x.block == block {
			return x, api.OK
		}
	}
	words, e := d.ask(block)
	if e != api.OK {
		if d.err == api.OK {
			d.err = e
		}
		return nil, e
	}
	x := &leaf{block: block}
	copy(x.old[:], words) // as many as there are: a store may answer more or fewer
	x.next = x.old
	d.leaves = append(d.leaves, x)
	return x, api.OK
}

func (d *draft) ask(block int) ([]uint64, api.Errno) {
	if d.under == nil {
		return nil, api.ErrArg
	}
	return d.under.Get(block)
}

// lay puts what is changed in the store, which may keep the words: the draft needs them no more. If the
// store refuses a block, those ahead of it are put back. Layer 16 tells what it could not read as what
// is not there, so an error that the store answered on the way ends it too.
func (d *draft) lay() api.Errno {
	if d.err != api.OK {
		return d.err
	}
	var laid []*leaf
	for _, x := range d.leaves {
		if x.next == x.old {
			continue
		}
		if e := d.under.Put(x.block, x.next[:]); e != api.OK {
			d.putBack(laid)
			return e
		}
		laid = append(laid, x)
	}
	return api.OK
}

func (d *draft) putBack(laid []*leaf) {
	for _, x := range slices.Backward(laid) {
		d.under.Put(x.block, x.old[:])
	}
}

// attempt does something on a draft of the store, and lays the draft. What can't be made gives up by a
// panic with its Errno: that is the answer, and the draft is nobody's.
func attempt(s api.Store, do func(api.Store)) (e api.Errno) {
	defer func() {
		if r := recover(); r != nil {
			e = told(r)
		}
	}()
	d := &draft{under: s}
	do(d)
	return d.lay()
}

// told answers the Errno that a panic tells. No other one is this package's: it is a store's that
// panics by itself, which must not come out of a call either.
func told(r any) api.Errno {
	if e, is := r.(api.Errno); is {
		return e
	}
	return api.ErrArg
}

// must gives up, if there is an error.
func must(e api.Errno) {
	if e != api.OK {
		panic(e)
	}
}
