package procs

import "janus/api"

// What comes first of each pid's words.
const (
	markFree   = 0
	markLives  = 1
	markZombie = 2
)

const (
	processWords = 3 // the mark, the parent, the status
	allWords     = api.MaxProcs * processWords
)

// Encode answers what is kept of all pids in words.
func (p *Procs) Encode() []uint64 {
	if p == nil {
		return nil
	}
	var words []uint64
	for pid := first; pid <= api.MaxProcs; pid++ {
		words = p.inUse[pid].appendTo(words)
	}
	return words
}

// Decode answers those whose Encode is these words.
func Decode(w []uint64) (*Procs, api.Errno) {
	if len(w) != allWords {
		return nil, api.ErrArg
	}
	p := New()
	for pid := first; pid <= api.MaxProcs; pid++ {
		if !p.read(pid, w[(pid-first)*processWords:]) {
			return nil, api.ErrArg
		}
	}
	if !p.isForest() {
		return nil, api.ErrArg
	}
	return p, api.OK
}

// appendTo puts the process's words behind the others; nil's are those of a pid that is free.
func (x *process) appendTo(words []uint64) []uint64 {
	if x == nil {
		return append(words, markFree, nobody, 0)
	}
	mark := uint64(markLives)
	if x.zombie {
		mark = markZombie
	}
	return append(words, mark, uint64(x.parent), uint64(x.status))
}

// read lets the pid be what the first words say of it; false, if they say nothing.
func (p *Procs) read(pid int, w []uint64) bool {
	mark, parent, status := w[0], w[1], w[2]
	if mark > markZombie || parent > api.MaxProcs || mark != markZombie && status != 0 {
		return false
	}
	if mark == markFree {
		return parent == nobody
	}
	p.put(pid, process{parent: int(parent), zombie: mark == markZombie, status: int(status)})
	return true
}

// isForest answers whether all may have their parents, and the way from parent to parent ends.
func (p *Procs) isForest() bool {
	for _, x := range p.inUse {
		if !p.mayHaveParent(x) {
			return false
		}
	}
	for _, x := range p.inUse {
		if !p.hasRoot(x) {
			return false
		}
	}
	return true
}

// mayHaveParent answers whether x may have its parent: a zombie one that lives, any other one that is in use, or nobody.
func (p *Procs) mayHaveParent(x *process) bool {
	if x.zombie {
		return p.Live(x.parent)
	}
	return x.parent == nobody || p.inUse[x.parent] != nil
}

// hasRoot answers whether the way from x, by parents that are all in use, comes to one that has none.
func (p *Procs) hasRoot(x *process) bool {
	for range api.MaxProcs { // a longer way goes round
		if x.parent == nobody {
			return true
		}
		x = p.inUse[x.parent]
	}
	return false
}
