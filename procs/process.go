package procs

import (
	"slices"

	"janus/api"
)

// process is what is kept of one that is in use.
type process struct {
	parent int
	zombie bool
	status int // 0, as long as it lives
}

func (x *process) lives() bool { return !x.zombie }

// put lets the pid be that process's.
func (p *Procs) put(pid int, x process) {
	if p.inUse == nil {
		p.inUse = map[int]*process{}
	}
	p.inUse[pid] = &x
}

// lowestFree answers the lowest pid that is not in use; none, if all are.
func (p *Procs) lowestFree() int {
	for pid := first; pid <= api.MaxProcs; pid++ {
		if p.inUse[pid] == nil {
			return pid
		}
	}
	return none
}

// those answers the pids of all of which that is so, rising, for the map tells them in any order.
func (p *Procs) those(is func(x *process) bool) []int {
	var pids []int
	for pid, x := range p.inUse {
		if is(x) {
			pids = append(pids, pid)
		}
	}
	slices.Sort(pids)
	return pids
}

// orphan lets pid's children be nobody's.
func (p *Procs) orphan(pid int) {
	for _, x := range p.inUse {
		if x.parent == pid {
			x.parent = nobody
		}
	}
}

// bury lets the zombies be gone that are nobody's: none waits for them.
func (p *Procs) bury() {
	for pid, x := range p.inUse {
		if x.zombie && x.parent == nobody {
			delete(p.inUse, pid)
		}
	}
}
