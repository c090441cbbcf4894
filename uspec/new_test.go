package uspec_test

import (
	"fmt"
	"slices"
	"strings"
	"testing"

	"janus/api"
	"janus/uspec"
)

// idle is a program that calls, and calls again.
const idle = " again: yield drop jump:again "

func wantNoState(t *testing.T, cfg api.Config, want api.Errno) {
	t.Helper()
	u, e := uspec.New(cfg)
	if u != nil || e != want {
		t.Errorf("New(%s) = %v, %d, want %d", short(cfg), u, e, want)
	}
	if l, e := uspec.Run(cfg, []api.Pick{{Env: 1, Fuel: 200}}); len(l) != 0 || e != want {
		t.Errorf("Run(%s) = %v, %d, want %d", short(cfg), l, e, want)
	}
	for _, l := range [][]api.Event{nil, {yields(1)}, {{}}} {
		if n := uspec.Follow(cfg, l); n != 0 {
			t.Errorf("Follow(%s, %v) = %d", short(cfg), l, n)
		}
	}
}

// 23: the chapter's example.
func TestExample(t *testing.T) {
	cfg := api.Config{Tree: []api.Node{file("/init", "\x00\x00\x17\x01\x03\x15\x00\x00")}}
	u := plays(t, cfg, exits(1, 0), nothing(1), nothing(1))
	wantLive(t, u)
	wantOut(t, u, "")
	wantTree(t, u, cfg.Tree...)
}

// many is so many files in that directory.
func many(n int, dir string) (l []api.Node) {
	for i := range n {
		l = append(l, file(fmt.Sprintf("%s/n%d", dir, i), ""))
	}
	return l
}

func nodes(l ...api.Node) []api.Node { return l }

// full is a tree of as many inodes as there may be beside / and one other: a directory with 21 names, and others.
func full() []api.Node {
	return slices.Concat(nodes(folder("/d")), many(21, "/d"), many(8, ""))
}

// 23.1: a tree that can't be made.
func TestTreesThatCannotBeMade(t *testing.T) {
	begins := nodes(file("/init", bytesOf(t, idle)))
	long := strings.Repeat("x", 193)
	for _, x := range []struct {
		want api.Errno
		tree []api.Node
	}{
		{api.ENOENT, nodes(file("", ""))},
		{api.ENOENT, nodes(folder(""))},
		{api.ENOENT, nodes(file("/x/y", ""))},
		{api.ENOENT, nodes(folder("/x/y"))},
		{api.ENOENT, nodes(file("/x/y", ""), folder("/x"))},
		{api.ENAMETOOLONG, nodes(file("/"+strings.Repeat("a/", 16), ""))},
		{api.ENAMETOOLONG, nodes(folder("/123456789"))},
		{api.ENAMETOOLONG, nodes(file("/123456789/x", ""))},
		{api.EINVAL, nodes(file("/", ""))},
		{api.EINVAL, nodes(folder("//"))},
		{api.EINVAL, nodes(file("/a\x00", ""))},
		{api.ENOTDIR, nodes(file("/init/x", ""))},
		{api.ENOTDIR, nodes(file("/f", ""), folder("/f/g"))},
		{api.EEXIST, nodes(folder("/init"))},
		{api.EEXIST, nodes(folder("/d"), folder("/d"))},
		{api.EISDIR, nodes(folder("/d"), file("/d", "x"))},
		{api.EFBIG, nodes(file("/f", long))},
		{api.ENOSPC, many(21, "")},
		{api.ENOSPC, append(full(), file("/one", ""))},
		{api.EFBIG, nodes(file("/f", long), file("", ""))}, // the first of them
		{api.ENOENT, nodes(file("", ""), file("/f", long))},
	} {
		wantNoState(t, api.Config{Tree: append(begins, x.tree...)}, x.want)
	}
	for _, l := range [][]api.Node{nil, nodes(folder("/init")), nodes(file("/init", ""))} { // ahead of what becomes of /init
		wantNoState(t, api.Config{Tree: append(l, folder("/d"), folder("/d")), Input: "abc"}, api.EEXIST)
		wantNoState(t, api.Config{Tree: append(l, file("/f", long)), Frames: 64, Blocks: 64}, api.EFBIG)
	}
	for _, l := range [][]api.Node{many(20, ""), full(), nodes(file("/f", long[1:]))} { // just not too much
		plays(t, api.Config{Tree: append(begins, l...)}, yields(1))
	}
}

// 23.1: what may stand where /init should, and what may not be run.
func TestInitsThatCannotBegin(t *testing.T) {
	program := bytesOf(t, idle)
	for _, x := range []struct {
		want api.Errno
		tree []api.Node
	}{
		{api.ENOENT, nil},
		{api.ENOENT, nodes(file("/inits", program), file("/Init", program), file("/ini", program))},
		{api.ENOENT, nodes(folder("/d"), file("/d/init", program))},
		{api.EISDIR, nodes(folder("/init"))},
		{api.EISDIR, nodes(folder("/init"), file("/init/init", program))},
		{api.ENOEXEC, nodes(file("/init", program), file("/init", ""))}, // the later one counts
		{api.ENOEXEC, nodes(file("/init", program), file("init", "\x03"))},
	} {
		wantNoState(t, api.Config{Tree: x.tree, Input: "abc"}, x.want)
	}
	for _, s := range []string{
		"", "\x00", "\x18", "\x00\x05", "\x03\x15\x00\x00", "\x15\x01\x00", // nothing, no operand, no operation, an end, an empty stack, no place
		program + "\x18", program[:len(program)-1], // the front alone would do
		"\x17\x00\x03\x15\x00\x00", "\x17\x14\x03\x15\x00\x00", "\x17\xff\x03\x15\x00\x00", "\x15\x00\x00\x17\x14", // numbers that are no call, if nothing leads there either
		strings.Repeat("\x00\x01", 33) + strings.Repeat("\x03", 33) + "\x15\x00\x00", // a stack that is too high
	} {
		wantNoState(t, api.Config{Tree: nodes(file("/init", s))}, api.ENOEXEC)
	}
}

// 23.1: a path to /init may have more slashes than it needs.
func TestInitByOtherPaths(t *testing.T) {
	program := bytesOf(t, idle)
	for _, path := range []string{"/init", "init", "//init", "/init/", "init//", "///init///"} {
		u := plays(t, api.Config{Tree: nodes(file(path, program))}, yields(1), yields(1))
		wantTree(t, u, file("/init", program))
	}
	u := plays(t, api.Config{Tree: nodes(file("/init", "no program"), folder("d"), file("d//init/", "x"), file("init/", program))}, yields(1))
	wantTree(t, u, folder("/d"), file("/d/init", "x"), file("/init", program))
}

// 23.1: a program of one instruction, and one as long as may be.
func TestShortestAndLongestInit(t *testing.T) {
	plays(t, api.Config{Tree: nodes(file("/init", "\x15\x00\x00"))}, nothing(1), nothing(1))
	program := bytesOf(t, idle)
	whole := program + strings.Repeat("\x03", 192-len(program))
	plays(t, api.Config{Tree: nodes(file("/init", whole))}, yields(1))
	wantNoState(t, api.Config{Tree: nodes(file("/init", whole+"\x03"))}, api.EFBIG)
}

// 23.1: how many frames and blocks there would be plays no part.
func TestSizesPlayNoPart(t *testing.T) {
	zeros := strings.Repeat("\x00", 126)
	for _, n := range append(farOff(), 0, -1, 1, 12, 13, 48, 1024, 1025) {
		for _, other := range []int{0, n, 1000} {
			cfg := runs(t, `"/f"@0 0 2 1 open 0 128 write drop`+idle)
			cfg.Frames, cfg.Blocks = n, other
			plays(t, cfg, does(1, api.Call{N: api.SysOpen, Text: "/f", C: 1}, 3), does(1, api.Call{N: api.SysWrite, A: 3, Text: "/f" + zeros}, 128), yields(1))
		}
	}
}

// 23.1: there are blocks enough for as many files as there may be, each as long as it may be.
func TestThereAreAlwaysBlocks(t *testing.T) {
	l := full()
	for i := range l {
		if !l[i].Dir {
			l[i].Data = strings.Repeat("x", 192)
		}
	}
	cfg := runs(t, idle, l...)
	cfg.Frames, cfg.Blocks = 1, 1
	if got := made(t, cfg).Tree(); len(got) != 31 {
		t.Errorf("%d files and directories of 31", len(got))
	}
}

// 23.1: process 1 alone, at its beginning, its memory all 0, nothing on its stack; nothing is shown.
func TestNewState(t *testing.T) {
	cfg := runs(t, "1 0 128 write drop getpid"+show+"0 end", folder("/d"), file("/d/f", "xy"))
	tree := nodes(folder("/d"), file("/d/f", "xy"), cfg.Tree[0])
	u := made(t, cfg)
	wantLive(t, u, 1)
	wantOut(t, u, "")
	wantTree(t, u, tree...)
	zeros := strings.Repeat("\x00", 128)
	u = plays(t, cfg, writes(1, zeros), does(1, api.Call{N: api.SysGetpid}, 1), shown(1, 1), exits(1, 0))
	wantOut(t, u, zeros)
	wantLive(t, u)
	wantTree(t, u, tree...)
}

// 23.1: its first three descriptors are consoles, and no other; its signals are all by default.
func TestNewProcess(t *testing.T) {
	cfg := runs(t, "0 0 5 read drop 2 0 5 write drop 3 close drop 1 2 kill drop"+idle)
	u := plays(t, cfg, called(1, api.Call{N: api.SysRead, C: 5}, api.Ret{N: 5, Data: "typed"}),
		does(1, api.Call{N: api.SysWrite, A: 2, Text: "typed"}, 5),
		fails(1, api.Call{N: api.SysClose, A: 3}, api.EBADF),
		does(1, api.Call{N: api.SysKill, A: 1, B: 2}, 0), dies(1, 2), nothing(1))
	wantOut(t, u, "typed")
	wantLive(t, u)
}
