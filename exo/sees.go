package exo

import (
	"slices"

	"janus/api"
)

// Sees answers all that the environment can see, in words; nothing unless it lives.
func (k *Kernel) Sees(env int) []uint64 {
	if k == nil || !k.envs.Is(env) {
		return nil
	}
	return slices.Concat(row(1), k.seesFrames(env), k.seesPages(env), k.seesExtents(env), row(k.messages.Waiting(env)))
}

// row is these numbers as words, in new memory.
func row(numbers ...int) []uint64 {
	words := make([]uint64, len(numbers))
	for i, n := range numbers {
		words[i] = uint64(n)
	}
	return words
}

// seesFrames answers which frames the environment's slots have, with which rights, and their words.
func (k *Kernel) seesFrames(env int) []uint64 {
	var seen []uint64
	for slot := 1; slot <= api.MaxCaps; slot++ {
		if x, has := k.frames.Cap(env, slot); has {
			seen = append(seen, row(slot, x.Id, x.Rights)...)
			seen = append(seen, k.frames.Words(x.Id)...)
		}
	}
	return seen
}

// seesPages answers the environment's pages that are mapped.
func (k *Kernel) seesPages(env int) []uint64 {
	var seen []uint64
	for page := range api.MaxPages {
		if p, mapped := k.frames.Page(env, page); mapped {
			seen = append(seen, row(page, p.Frame, oneIf(p.Writable))...)
		}
	}
	return seen
}

// seesExtents answers which extents the environment's slots have, with which rights, and their blocks' words.
func (k *Kernel) seesExtents(env int) []uint64 {
	var seen []uint64
	for slot := 1; slot <= api.MaxCaps; slot++ {
		if x, has := k.extents.Cap(env, slot); has {
			seen = append(seen, row(slot, x.Id, x.Len, x.Rights)...)
			for block := x.Id; block < x.Id+x.Len; block++ {
				seen = append(seen, k.extents.Words(block)...)
			}
		}
	}
	return seen
}

func oneIf(is bool) int {
	if is {
		return 1
	}
	return 0
}
