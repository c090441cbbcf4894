package unix

import "janus/api"

// guarded is a store whose panics are errors of it: they may not come out of a call, nor leave one half done.
type guarded struct {
	store api.Store
}

func guard(s api.Store) api.Store {
	if s == nil {
		return nil
	}
	return guarded{s}
}

// Get answers what the store does.
func (g guarded) Get(block int) (words []uint64, e api.Errno) {
	defer func() {
		if recover() != nil {
			words, e = nil, api.ErrArg
		}
	}()
	return g.store.Get(block)
}

// Put answers what the store does.
func (g guarded) Put(block int, words []uint64) (e api.Errno) {
	defer func() {
		if recover() != nil {
			e = api.ErrArg
		}
	}()
	return g.store.Put(block, words)
}
