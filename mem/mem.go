// Package mem is layer 1: the machine's memory, frames of words.
package mem

import "janus/api"

// words is what one frame holds.
type words [api.PageWords]uint64

// Mem is a memory; nil, and one that New did not make, have no frames.
type Mem struct {
	frames []words
}

// New makes a memory of so many frames, all words 0; nil unless there are 1 to api.MaxFrames.
func New(frames int) *Mem {
	if frames < 1 || frames > api.MaxFrames {
		return nil
	}
	return &Mem{frames: make([]words, frames)}
}

// Frames answers how many frames there are.
func (m *Mem) Frames() int {
	if m == nil {
		return 0
	}
	return len(m.frames)
}

// Read answers a word of a frame.
func (m *Mem) Read(frame, word int) (uint64, api.Errno) {
	if !m.hasWord(frame, word) {
		return 0, api.ErrArg
	}
	return m.frames[frame][word], api.OK
}

// Write sets a word of a frame.
func (m *Mem) Write(frame, word int, v uint64) api.Errno {
	if !m.hasWord(frame, word) {
		return api.ErrArg
	}
	m.frames[frame][word] = v
	return api.OK
}

// Copy lays all words of one frame into another, which may be the same.
func (m *Mem) Copy(to, from int) api.Errno {
	if !m.hasFrame(to) || !m.hasFrame(from) {
		return api.ErrArg
	}
	copy(m.frames[to][:], m.frames[from][:])
	return api.OK
}

// Zero sets all words of a frame to 0.
func (m *Mem) Zero(frame int) api.Errno {
	if !m.hasFrame(frame) {
		return api.ErrArg
	}
	clear(m.frames[frame][:])
	return api.OK
}

// Page answers the words of a frame; none of one that is not there.
func (m *Mem) Page(frame int) []uint64 {
	if !m.hasFrame(frame) {
		return nil
	}
	// A piece of the frame itself would let whoever holds it write the memory.
	page := make([]uint64, api.PageWords)
	copy(page, m.frames[frame][:])
	return page
}

func (m *Mem) hasFrame(frame int) bool {
	return frame >= 0 && frame < m.Frames()
}

func (m *Mem) hasWord(frame, word int) bool {
	return m.hasFrame(frame) && word >= 0 && word < api.PageWords
}
