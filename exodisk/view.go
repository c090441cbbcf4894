package exodisk

import "janus/api"

// View is the extent in a slot, as a store; it keeps whose slot that is, not what the slot has, which may change.
type View struct {
	kernel    *Kernel
	env, slot int
}

// View answers a store whose blocks are those of the extent that the slot has whenever it is asked.
func (k *Kernel) View(env, slot int) *View {
	if k == nil {
		return nil
	}
	return &View{kernel: k, env: env, slot: slot}
}

// Get answers the words of the block that is at this place in the extent.
func (v *View) Get(block int) ([]uint64, api.Errno) {
	at, e := v.find(block, api.RightRead)
	if e != api.OK {
		return nil, e
	}
	return v.kernel.Get(v.env, v.slot, at)
}

// Put sets the words of the block that is at this place in the extent.
func (v *View) Put(block int, words []uint64) api.Errno {
	at, e := v.find(block, api.RightWrite)
	if e != api.OK {
		return e
	}
	return v.kernel.Put(v.env, v.slot, at, words)
}

// find answers which of the disk's blocks is at this place in the extent, if the slot has one with that right.
func (v *View) find(block, right int) (int, api.Errno) {
	if v == nil {
		return 0, api.ErrArg
	}
	x, has := v.kernel.extent(v.env, v.slot, right)
	if !has {
		return 0, api.ErrCap
	}
	if block < 0 || block >= x.Len {
		return 0, api.ErrArg
	}
	return x.Id + block, api.OK
}
