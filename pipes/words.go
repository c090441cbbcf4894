package pipes

import (
	"math"

	"janus/api"
)

// What comes first of each number's words: whether there is such a pipe.
const (
	markNone = 0
	markMade = 1
)

// Encode answers the pipes and what is in them in words.
func (p *Pipes) Encode() []uint64 {
	if p == nil {
		return nil
	}
	var words []uint64
	for id, made := range p.made {
		if made {
			words = append(words, markMade)
			words = appendBytes(words, p.rings[id].bytes())
		} else {
			words = append(words, markNone)
		}
	}
	return words
}

// Decode answers those whose Encode is these words.
func Decode(w []uint64) (*Pipes, api.Errno) {
	p := New()
	for id := range p.made {
		n, ok := p.read(id, w)
		if !ok {
			return nil, api.ErrArg
		}
		w = w[n:]
	}
	if len(w) != 0 {
		return nil, api.ErrArg
	}
	return p, api.OK
}

// appendBytes puts how many bytes there are, and these, behind the words.
func appendBytes(words []uint64, b []byte) []uint64 {
	words = append(words, uint64(len(b)))
	for _, x := range b {
		words = append(words, uint64(x))
	}
	return words
}

// read makes of the first words what they say of that number, and answers how many they are; false, if they say nothing.
func (p *Pipes) read(id int, w []uint64) (int, bool) {
	if len(w) == 0 || w[0] > markMade {
		return 0, false
	}
	if w[0] == markNone {
		return 1, true
	}
	b, ok := readBytes(w[1:])
	if !ok {
		return 0, false
	}
	p.made[id] = true
	p.rings[id].put(string(b))
	return 2 + len(b), true
}

// readBytes answers the bytes whose count comes first; false, if these may not be in a pipe, or are not there.
func readBytes(w []uint64) ([]byte, bool) {
	if len(w) == 0 || w[0] > api.PipeSize || w[0] > uint64(len(w)-1) {
		return nil, false
	}
	b := make([]byte, int(w[0]))
	for i := range b {
		if w[1+i] > math.MaxUint8 {
			return nil, false
		}
		b[i] = byte(w[1+i])
	}
	return b, true
}
