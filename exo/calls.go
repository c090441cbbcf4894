package exo

import (
	"slices"

	"janus/api"
)

// answer makes what a call answers: these words, or an error and none.
func answer(e api.Errno, words ...uint64) ([]uint64, api.Errno) {
	if e != api.OK {
		return nil, e
	}
	return slices.Clone(words), api.OK
}

// share does the calls by which frames are shared out.
func (k *Kernel) share(x request) ([]uint64, api.Errno) {
	switch x.call {
	case callAlloc:
		slot, e := k.frames.Alloc(x.env)
		return answer(e, uint64(slot))
	case callGrant:
		return k.grant(x, k.frames.Grant)
	case callFree:
		return answer(k.frames.Free(x.env, x.a))
	case callRevoke:
		return answer(k.frames.Revoke(x.env, x.a))
	case callMap:
		if x.c > 1 {
			return answer(api.ErrArg)
		}
		return answer(k.frames.Map(x.env, x.a, x.b, x.c == 1))
	}
	return answer(k.frames.Unmap(x.env, x.a))
}

// move does the calls by which frames' words are read and written.
func (k *Kernel) move(x request) ([]uint64, api.Errno) {
	switch x.call {
	case callLoad:
		word, e := k.frames.Load(x.env, x.values[0])
		return answer(e, word)
	case callStore:
		return answer(k.frames.Store(x.env, x.values[0], x.values[1]))
	case callCopy:
		return answer(k.frames.Copy(x.env, x.a, x.b))
	case callRead:
		word, e := k.frames.Read(x.env, x.a, x.b)
		return answer(e, word)
	}
	return answer(k.frames.Write(x.env, x.a, x.b, x.values[0]))
}

// talk does the calls by which messages are sent and received.
func (k *Kernel) talk(x request) ([]uint64, api.Errno) {
	if x.call == callRecv {
		from, words, ok := k.messages.Recv(x.env)
		if !ok {
			return answer(api.ErrNone)
		}
		return answer(api.OK, append(row(from), words...)...)
	}
	if !k.envs.Is(x.a) {
		return answer(api.ErrArg)
	}
	return answer(k.messages.Send(x.env, x.a, x.values))
}

// disk does the calls by which extents are shared out, and blocks are got and put.
func (k *Kernel) disk(x request) ([]uint64, api.Errno) {
	switch x.call {
	case callAllocExtent:
		slot, e := k.extents.Alloc(x.env, x.a, x.b)
		return answer(e, uint64(slot))
	case callGrantExtent:
		return k.grant(x, k.extents.Grant)
	case callRevokeExtent:
		return answer(k.extents.Revoke(x.env, x.a))
	case callGet:
		words, e := k.extents.Get(x.env, x.a, x.b)
		return answer(e, words...)
	}
	return answer(k.extents.Put(x.env, x.a, x.b, x.values))
}

// grant does a Grant, of a frame or of an extent as give does it, to one that lives.
func (k *Kernel) grant(x request, give func(env, slot, to, rights int) (int, api.Errno)) ([]uint64, api.Errno) {
	if !k.envs.Is(x.b) {
		return answer(api.ErrArg)
	}
	slot, e := give(x.env, x.a, x.b, x.c)
	return answer(e, uint64(slot))
}
