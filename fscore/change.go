package fscore

import (
	"slices"

	"janus/api"
	"janus/dir"
	"janus/inode"
)

const root = 0

// spot is where a name stands, or may stand: in a directory.
type spot struct {
	dir  int
	name string
}

func spotOf(s api.Store, path string) spot {
	i, name, e := dir.Parent(s, path)
	must(e)
	return spot{i, name}
}

// find answers the inode that is named there; -1 without one.
func (p spot) find(s api.Store) int {
	return dir.Find(s, p.dir, p.name)
}

func walk(s api.Store, path string) int {
	i, e := dir.Walk(s, path)
	must(e)
	return i
}

func nodeOf(s api.Store, i int) api.Inode {
	x, e := inode.Get(s, i)
	must(e)
	return x
}

func isDir(s api.Store, i int) bool {
	return nodeOf(s, i).Kind == api.InodeDir
}

// count lets an inode have so many links more, and answers how many it has then.
func count(s api.Store, i, more int) int {
	x := nodeOf(s, i)
	x.Links += more
	must(inode.Put(s, i, x))
	return x.Links
}

// born makes a new inode with its one name; whyever the name can't be added, it is for want of space.
func born(s api.Store, at spot, kind int) int {
	i, e := inode.Alloc(s, kind)
	must(e)
	count(s, i, 1)
	if dir.Add(s, at.dir, at.name, i) != api.OK {
		panic(api.ENOSPC)
	}
	return i
}

func create(s api.Store, path string) int {
	at := spotOf(s, path)
	i := at.find(s)
	if i < 0 {
		return born(s, at, api.InodeFile)
	}
	if isDir(s, i) {
		panic(api.EISDIR)
	}
	return i
}

func mkdir(s api.Store, path string) {
	at := spotOf(s, path)
	if at.find(s) >= 0 {
		panic(api.EEXIST)
	}
	born(s, at, api.InodeDir)
}

func unlink(s api.Store, path string, open []int) {
	i := walk(s, path)
	if isDir(s, i) {
		panic(api.EISDIR)
	}
	drop(s, spotOf(s, path), i, open)
}

// drop takes a name away from the file that has it.
func drop(s api.Store, at spot, i int, open []int) {
	must(dir.Remove(s, at.dir, at.name))
	if count(s, i, -1) == 0 && !slices.Contains(open, i) {
		must(inode.Free(s, i))
	}
}

func link(s api.Store, from, to string) {
	i := walk(s, from)
	if isDir(s, i) {
		panic(api.EISDIR)
	}
	at := spotOf(s, to)
	must(dir.Add(s, at.dir, at.name, i)) // EEXIST is the first error that may be left
	count(s, i, 1)
}

func rename(s api.Store, from, to string, open []int) {
	source := spotOf(s, from)
	i := walk(s, from)
	target := spotOf(s, to)
	if isDir(s, i) && leadsThrough(s, to, i) {
		panic(api.EINVAL)
	}
	old := target.find(s)
	if old == i {
		return
	}
	if old >= 0 {
		if isDir(s, i) || isDir(s, old) {
			panic(api.EEXIST)
		}
		drop(s, target, old, open)
	}
	move(s, source, target, i)
}

// leadsThrough answers whether a path's directory is i, or lies below it. A directory has one name, so
// no other way leads there.
func leadsThrough(s api.Store, path string, i int) bool {
	parts, e := dir.Split(path)
	must(e)
	at := root
	for _, name := range parts[:len(parts)-1] {
		if at == i {
			return true
		}
		at = dir.Find(s, at, name)
	}
	return at == i
}

// move takes a name away, and adds another one for what it named. Whether there is room for it is
// tried ahead: what the old name's directory gives back is not for another one.
func move(s api.Store, source, target spot, i int) {
	if source.dir != target.dir && dir.Add(&draft{under: s}, target.dir, target.name, i) != api.OK {
		panic(api.ENOSPC)
	}
	must(dir.Remove(s, source.dir, source.name))
	must(dir.Add(s, target.dir, target.name, i))
}

func closeFile(s api.Store, i int) {
	x := nodeOf(s, i)
	if x.Kind == api.InodeFile && x.Links == 0 && inUse(s, i) {
		must(inode.Free(s, i))
	}
}

// inUse answers whether there would be one inode more left without this one: layer 15 tells it in no other way.
func inUse(s api.Store, i int) bool {
	trial := &draft{under: s}
	was, _ := inode.Left(trial)
	must(inode.Free(trial, i))
	left, _ := inode.Left(trial)
	return left > was
}
