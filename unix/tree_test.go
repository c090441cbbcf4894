package unix_test

import (
	"slices"
	"strings"

	"janus/api"
)

// thing is a file or a directory of a plain tree.
type thing struct {
	isDir bool
	links int
	text  string
	names []string // of a directory, in their order
	to    []int
}

func (x *thing) blocks() int {
	size := len(x.text)
	if x.isDir {
		size = 9 * len(x.names)
	}
	return (size + 31) / 32
}

// plain is a file system as a map of things, by their inodes; the root is 0.
type plain struct {
	things map[int]*thing
	blocks int
}

func newPlain(count int, tree []api.Node) *plain {
	p := &plain{map[int]*thing{0: {isDir: true, links: 1}}, count - 12}
	for _, x := range tree {
		i, _ := p.make(x.Path, x.Dir)
		p.things[i].text = x.Data
	}
	return p
}

func (p *plain) left() int {
	n := p.blocks
	for _, x := range p.things {
		n -= x.blocks()
	}
	return n
}

func split(path string) ([]string, api.Errno) {
	if path == "" {
		return nil, api.ENOENT
	}
	if len(path) > 32 {
		return nil, api.ENAMETOOLONG
	}
	parts := slices.DeleteFunc(strings.Split(path, "/"), func(part string) bool { return part == "" })
	for _, part := range parts {
		if len(part) > 8 {
			return nil, api.ENAMETOOLONG
		}
		if strings.Contains(part, "\x00") {
			return nil, api.EINVAL
		}
	}
	return parts, api.OK
}

// way is the inodes that those parts lead by, from the root on.
func (p *plain) way(parts []string) ([]int, api.Errno) {
	l := []int{0}
	for _, part := range parts {
		x := p.things[l[len(l)-1]]
		if !x.isDir {
			return nil, api.ENOTDIR
		}
		k := slices.Index(x.names, part)
		if k < 0 {
			return nil, api.ENOENT
		}
		l = append(l, x.to[k])
	}
	return l, api.OK
}

func (p *plain) walk(path string) (int, api.Errno) {
	parts, e := split(path)
	if e != api.OK {
		return 0, e
	}
	l, e := p.way(parts)
	if e != api.OK {
		return 0, e
	}
	return l[len(l)-1], api.OK
}

// parent is the inodes down to the directory of a path, and the name in it.
func (p *plain) parent(path string) ([]int, string, api.Errno) {
	parts, e := split(path)
	if e != api.OK {
		return nil, "", e
	}
	if len(parts) == 0 {
		return nil, "", api.EINVAL
	}
	last := len(parts) - 1
	l, e := p.way(parts[:last])
	if e != api.OK {
		return nil, "", e
	}
	if !p.things[l[last]].isDir {
		return nil, "", api.ENOTDIR
	}
	return l, parts[last], api.OK
}

func (p *plain) find(i int, name string) int {
	if k := slices.Index(p.things[i].names, name); k >= 0 {
		return p.things[i].to[k]
	}
	return -1
}

// add puts a name in a directory, if there is room.
func (p *plain) add(i int, name string, to int) api.Errno {
	x := p.things[i]
	n := 9 * len(x.names)
	if len(x.names) == 21 || (n+9+31)/32 > (n+31)/32 && p.left() == 0 {
		return api.ENOSPC
	}
	x.names, x.to = append(x.names, name), append(x.to, to)
	return api.OK
}

func (p *plain) remove(i int, name string) {
	x := p.things[i]
	k := slices.Index(x.names, name)
	x.names, x.to = slices.Delete(slices.Clone(x.names), k, k+1), slices.Delete(slices.Clone(x.to), k, k+1)
}

// make is a new file or directory, of which the path's name is none yet.
func (p *plain) make(path string, isDir bool) (int, api.Errno) {
	l, name, e := p.parent(path)
	if e != api.OK {
		return 0, e
	}
	dir := l[len(l)-1]
	if p.find(dir, name) >= 0 {
		return 0, api.EEXIST
	}
	if len(p.things) == 32 {
		return 0, api.ENOSPC
	}
	i := 0
	for p.things[i] != nil {
		i++
	}
	if e := p.add(dir, name, i); e != api.OK {
		return 0, e
	}
	p.things[i] = &thing{isDir: isDir, links: 1}
	return i, api.OK
}

// file is what a path leads to, if that is no directory.
func (p *plain) file(path string) (int, api.Errno) {
	i, e := p.walk(path)
	if e != api.OK {
		return 0, e
	}
	if p.things[i].isDir {
		return 0, api.EISDIR
	}
	return i, api.OK
}

func (p *plain) lose(i int, open []int) {
	p.things[i].links--
	p.close(i, open)
}

// close lets a file be gone that has no name and is not open.
func (p *plain) close(i int, open []int) {
	if p.things[i].links == 0 && !slices.Contains(open, i) {
		delete(p.things, i)
	}
}

func (p *plain) unlink(path string, open []int) api.Errno {
	i, e := p.file(path)
	if e != api.OK {
		return e
	}
	l, name, _ := p.parent(path)
	p.remove(l[len(l)-1], name)
	p.lose(i, open)
	return api.OK
}

func (p *plain) link(from, to string) api.Errno {
	i, e := p.file(from)
	if e != api.OK {
		return e
	}
	l, name, e := p.parent(to)
	if e != api.OK {
		return e
	}
	dir := l[len(l)-1]
	if p.find(dir, name) >= 0 {
		return api.EEXIST
	}
	if e := p.add(dir, name, i); e != api.OK {
		return e
	}
	p.things[i].links++
	return api.OK
}

func (p *plain) rename(from, to string, open []int) api.Errno {
	l, name, e := p.parent(from)
	if e != api.OK {
		return e
	}
	i, e := p.walk(from)
	if e != api.OK {
		return e
	}
	m, other, e := p.parent(to)
	if e != api.OK {
		return e
	}
	source, target := l[len(l)-1], m[len(m)-1]
	if p.things[i].isDir && slices.Contains(m, i) {
		return api.EINVAL
	}
	old := p.find(target, other)
	if old == i {
		return api.OK
	}
	if old >= 0 && (p.things[i].isDir || p.things[old].isDir) {
		return api.EEXIST
	}
	if old >= 0 { // there is room then: as many names as were there, or fewer
		p.remove(target, other)
		p.lose(old, open)
	}
	if source != target {
		if e := p.add(target, other, i); e != api.OK {
			return e
		}
		p.remove(source, name)
		return api.OK
	}
	p.remove(source, name)
	return p.add(target, other, i)
}

// write lays text at off, if there is room.
func (p *plain) write(i, off int, text string) api.Errno {
	x := p.things[i]
	if off+len(text) > 192 {
		return api.EFBIG
	}
	old := x.text
	now := old + strings.Repeat("\x00", max(off-len(old), 0))
	now = now[:off] + text + now[min(off+len(text), len(now)):]
	if (len(now)+31)/32-x.blocks() > p.left() {
		return api.ENOSPC
	}
	x.text = now
	return api.OK
}

func (p *plain) tree(i int, path string) []api.Node {
	var l []api.Node
	for _, name := range slices.Sorted(slices.Values(p.things[i].names)) {
		k := p.find(i, name)
		x := p.things[k]
		l = append(l, api.Node{Path: path + "/" + name, Dir: x.isDir, Data: x.text})
		if x.isDir {
			l = append(l, p.tree(k, path+"/"+name)...)
		}
	}
	return l
}
