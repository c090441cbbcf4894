package fds

import "janus/api"

// nothing is what a descriptor names that is free.
const nothing = 0

// table is which open file each descriptor of a process names, counted from 1 on.
type table [api.MaxFd]int

// tables is those of all processes, from process 1 on.
type tables [api.MaxProcs]table

// lowestFree answers the lowest descriptor that is free; -1, if there is none.
func (t *table) lowestFree() int {
	for fd, name := range t {
		if name == nothing {
			return fd
		}
	}
	return -1
}

// left answers how many descriptors are free.
func (t *table) left() int {
	n := 0
	for _, name := range t {
		if name == nothing {
			n++
		}
	}
	return n
}

// inOrder answers the tables with their files counted anew, each where it is named first, and in that order how they were counted till then.
func (ts tables) inOrder() (tables, []int) {
	var counted [api.MaxOpen + 1]int // what a file is counted as now; nothing stays nothing
	var before []int
	for p := range ts { // ts is the call's own copy
		for fd, name := range ts[p] {
			if name != nothing && counted[name] == nothing {
				before = append(before, name)
				counted[name] = len(before)
			}
			ts[p][fd] = counted[name]
		}
	}
	return ts, before
}
