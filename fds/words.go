package fds

import "janus/api"

const (
	fileWords  = 4
	nameWords  = api.MaxProcs * api.MaxFd
	mostNumber = 1 << 20 // of an Id and an Off that are read from words
)

// Encode answers the open files and the tables in words.
func (f *Fds) Encode() []uint64 {
	if f == nil {
		return nil
	}
	ordered, before := f.tables.inOrder()
	words := []uint64{uint64(len(before))}
	for _, name := range before {
		words = appendFile(words, f.files[name-1])
	}
	for _, t := range ordered {
		for _, name := range t {
			words = append(words, uint64(name))
		}
	}
	return words
}

// Decode answers the one whose Encode is these words.
func Decode(w []uint64) (*Fds, api.Errno) {
	if len(w) == 0 || w[0] > api.MaxOpen {
		return nil, api.ErrArg
	}
	n := int(w[0])
	names := 1 + n*fileWords // where they begin
	if len(w) != names+nameWords {
		return nil, api.ErrArg
	}
	f := &Fds{}
	if !f.readFiles(w[1:names]) || !f.readNames(w[names:], n) {
		return nil, api.ErrArg
	}
	// Encode counts a file where it is named first, and none that is not named.
	if ordered, before := f.tables.inOrder(); ordered != f.tables || len(before) != n {
		return nil, api.ErrArg
	}
	return f, api.OK
}

// appendFile puts an open file's words behind the others.
func appendFile(words []uint64, x api.File) []uint64 {
	appends := uint64(0)
	if x.Append {
		appends = 1
	}
	return append(words, uint64(x.Kind), uint64(x.Id), uint64(x.Off), appends)
}

// readFiles lays the files, each without Refs yet, in the first places; false, if one can't be.
func (f *Fds) readFiles(w []uint64) bool {
	for place := range len(w) / fileWords {
		x, ok := readFile(w[place*fileWords:])
		if !ok {
			return false
		}
		f.files[place] = x
	}
	return true
}

// readFile answers the file whose words come first, and whether it may be one.
func readFile(w []uint64) (api.File, bool) {
	kind, id, off, appends := w[0], w[1], w[2], w[3]
	if kind < api.FileConsole || kind > api.FileWriter || id > mostNumber || off > mostNumber || appends > 1 {
		return api.File{}, false
	}
	return api.File{Kind: int(kind), Id: int(id), Off: int(off), Append: appends == 1}, true
}

// readNames lets each descriptor name one of the first n files, or nothing; false, if it names another.
func (f *Fds) readNames(w []uint64, n int) bool {
	for i, word := range w {
		if word > uint64(n) {
			return false
		}
		name := int(word)
		f.tables[i/api.MaxFd][i%api.MaxFd] = name
		if name != nothing {
			f.files[name-1].Refs++
		}
	}
	return true
}
