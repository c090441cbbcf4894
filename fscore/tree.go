package fscore

import (
	"slices"
	"strings"

	"janus/api"
	"janus/dir"
	"janus/inode"
)

// plant lays a file system, and makes all of the tree on it, in its order.
func plant(s api.Store, blocks int, tree []api.Node) {
	must(inode.Format(s, blocks))
	for _, x := range tree {
		if x.Dir {
			mkdir(s, x.Path)
		} else {
			fill(s, create(s, x.Path), x.Data)
		}
	}
}

// fill lets a file have these bytes alone.
func fill(s api.Store, i int, data string) {
	must(inode.Resize(s, i, 0))
	must(inode.Write(s, i, 0, data))
}

// look is a way through all directories, and what was seen on it.
type look struct {
	store api.Store
	seen  [api.MaxInodes]bool // where a store's words let a directory lie in itself, the way ends all the same
	nodes []api.Node
}

// into goes through what is in a directory, by its names.
func (l *look) into(i int, path string) {
	l.seen[i] = true
	for _, x := range sorted(dir.List(l.store, i)) {
		l.add(x.to, path+"/"+x.name)
	}
}

// add tells of a file, or of a directory and then of what is in it.
func (l *look) add(i int, path string) {
	if !isDir(l.store, i) {
		data, e := inode.Read(l.store, i, 0, api.MaxFile)
		must(e)
		l.nodes = append(l.nodes, api.Node{Path: path, Data: data})
		return
	}
	l.nodes = append(l.nodes, api.Node{Path: path, Dir: true})
	if !l.seen[i] {
		l.into(i, path)
	}
}

// entry is a directory's name, and the inode that it names.
type entry struct {
	name string
	to   int
}

// sorted answers a directory's entries by their names, byte by byte.
func sorted(names []string, to []int) []entry {
	var l []entry
	for k, name := range names {
		l = append(l, entry{name, to[k]})
	}
	slices.SortStableFunc(l, func(a, b entry) int { return strings.Compare(a.name, b.name) })
	return l
}
