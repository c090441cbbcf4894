package dir

import (
	"strings"

	"janus/api"
	"janus/inode"
)

const (
	root       = 0
	entrySize  = api.MaxName + 1
	maxEntries = api.MaxFile / entrySize
)

// entry is a name in a directory, and the inode that it names.
type entry struct {
	name string
	to   int
}

// text is how an entry lies in a directory's data.
func (x entry) text() string {
	return x.name + strings.Repeat("\x00", api.MaxName-len(x.name)) + string([]byte{byte(x.to)})
}

func texts(l []entry) string {
	var b strings.Builder
	for _, x := range l {
		b.WriteString(x.text())
	}
	return b.String()
}

func isDir(s api.Store, i int) bool {
	x, e := inode.Get(s, i)
	return e == api.OK && x.Kind == api.InodeDir
}

// entries answers what is in a directory; what the store does not let be read counts as none.
func entries(s api.Store, i int) ([]entry, api.Errno) {
	if !isDir(s, i) {
		return nil, api.ENOTDIR
	}
	data, e := inode.Read(s, i, 0, api.MaxFile)
	if e != api.OK {
		return nil, api.ENOTDIR
	}
	var l []entry
	for len(data) >= entrySize {
		name := strings.TrimRight(data[:api.MaxName], "\x00")
		l = append(l, entry{name, int(data[api.MaxName])})
		data = data[entrySize:]
	}
	return l, api.OK
}

// place answers which entry has the name; -1 without one.
func place(l []entry, name string) int {
	for k, x := range l {
		if x.name == name {
			return k
		}
	}
	return -1
}

// find answers the inode that the directory's name names.
func find(s api.Store, i int, name string) (int, api.Errno) {
	l, e := entries(s, i)
	if e != api.OK {
		return 0, e
	}
	k := place(l, name)
	if k < 0 {
		return 0, api.ENOENT
	}
	return l[k].to, api.OK
}
