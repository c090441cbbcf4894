package unix

import (
	"janus/api"
	"janus/fds"
	"janus/pipes"
	"janus/procs"
	"janus/signals"
)

const partCount = 4 // descriptors, pipes, signals, processes

// Encode answers the core in words: each part behind how many it has.
func (c *Core) Encode() []uint64 {
	if c == nil {
		return nil
	}
	var words []uint64
	for _, part := range [partCount][]uint64{c.fds.Encode(), c.pipes.Encode(), c.signals.Encode(), c.procs.Encode()} {
		words = append(words, uint64(len(part)))
		words = append(words, part...)
	}
	return words
}

// Decode answers the one whose Encode is these words.
func Decode(w []uint64) (*Core, api.Errno) {
	parts, ok := partsOf(w)
	if !ok {
		return nil, api.ErrArg
	}
	c := &Core{}
	var e [partCount]api.Errno
	c.fds, e[0] = fds.Decode(parts[0])
	c.pipes, e[1] = pipes.Decode(parts[1])
	c.signals, e[2] = signals.Decode(parts[2])
	c.procs, e[3] = procs.Decode(parts[3])
	if e != [partCount]api.Errno{} {
		return nil, api.ErrArg
	}
	return c, api.OK
}

// partsOf cuts the words at the lengths that they tell; false, if these are not those of all of them.
func partsOf(w []uint64) ([partCount][]uint64, bool) {
	var parts [partCount][]uint64
	for i := range parts {
		if len(w) == 0 || w[0] > uint64(len(w)-1) {
			return parts, false
		}
		n := int(w[0])
		parts[i], w = w[1:1+n], w[1+n:]
	}
	return parts, len(w) == 0
}
