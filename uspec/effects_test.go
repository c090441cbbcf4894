package uspec_test

import (
	"fmt"
	"strings"
	"testing"

	"janus/api"
	"janus/uspec"
)

// 23.2: what was read lies from B on, a byte in a word, as far as it goes; what is behind it stays.
func TestReadLaysItsData(t *testing.T) {
	fill := `"ABCDEF"@8 #18446744073709551615 10 store `
	reads := func(c uint64, data string) api.Event {
		return called(1, api.Call{N: api.SysRead, B: 9, C: c}, api.Ret{N: len(data), Data: data})
	}
	writesOf := writes(1, "A\xb1t\x00EF")
	cfg := runs(t, fill+"0 9 9 read"+show+"1 8 6 write drop 10 load"+show+"11 load"+show+"0 9 9 read"+show+"1 8 6 write drop"+idle)
	cfg.Input = "\xb1t\x00"
	plays(t, cfg, reads(9, cfg.Input), shown(1, 3), writesOf, shown(1, 't'), shown(1, 0), reads(9, ""), shown(1, 0), writesOf, yields(1))

	cfg = runs(t, fill+"0 9 2 read"+show+"1 8 6 write drop 10 load"+show+"0 9 0 read"+show+"0 9 1 read"+show+"1 8 6 write drop"+idle)
	cfg.Input = "\xb1t\x00"
	plays(t, cfg, reads(2, "\xb1t"), shown(1, 2), writes(1, "A\xb1tDEF"), shown(1, 't'), reads(0, ""), shown(1, 0), reads(1, "\x00"), shown(1, 1), writes(1, "A\x00tDEF"), yields(1))
}

// 23.2: the whole memory may be read into, and its last word.
func TestReadFillsTheMemory(t *testing.T) {
	all := strings.Repeat("0123456789abcdef", 8)
	cfg := runs(t, "0 0 128 read drop 1 0 128 write drop 0 127 1 read drop 127 load"+show+idle)
	cfg.Input = all + "\xffz"
	plays(t, cfg, called(1, api.Call{N: api.SysRead, C: 128}, api.Ret{N: 128, Data: all}), writes(1, all),
		called(1, api.Call{N: api.SysRead, B: 127, C: 1}, api.Ret{N: 1, Data: "\xff"}), shown(1, 255), yields(1))
}

// 23.2: a read that errs lays nothing.
func TestReadThatErrs(t *testing.T) {
	plays(t, runs(t, `"AB"@8 5 8 2 read`+show+"1 8 2 write drop"+idle), fails(1, api.Call{N: api.SysRead, A: 5, B: 8, C: 2}, api.EBADF), shownErr(1, api.EBADF), writes(1, "AB"), yields(1))
}

// 23.2: a child's status lies at A, and nothing where there is an error, or while it waits.
func TestWaitLaysAStatus(t *testing.T) {
	s := "77 5 store 78 6 store 79 4 store 5 wait" + show + "5 load" + show + "fork zero:child 5 wait" + show + "5 load" + show + "4 load" + show + "6 load" + show + idle + "child: yield 511 add exit drop end2: jump:end2"
	plays(t, runs(t, s), fails(1, api.Call{N: api.SysWait, A: 5}, api.ECHILD), shownErr(1, api.ECHILD), shown(1, 77),
		forks(1, 2), nothing(1), yields(2), nothing(1), exits(2, 511), nothing(2),
		waited(1, 5, 2, 255), shown(1, 2), shown(1, 255), shown(1, 79), shown(1, 78), yields(1))
	plays(t, runs(t, "77 127 store fork zero:child 127 wait"+show+"127 load"+show+idle+"child: 256 end"), forks(1, 2), exits(2, 256), waited(1, 127, 2, 0), shown(1, 2), shown(1, 0))
}

// 23.2: a pipe's descriptors lie at A and behind it, and no others; nothing is laid of one that could not be made.
func TestPipeLaysItsDescriptors(t *testing.T) {
	s := "66 4 store 99 7 store 5 pipe" + show + "5 load" + show + "6 load" + show + "4 load" + show + "7 load" + show + idle
	plays(t, runs(t, s), piped(1, 5, 3, 4), shown(1, 0), shown(1, 3), shown(1, 4), shown(1, 66), shown(1, 99), yields(1))
	s = "2 dupfd drop 2 dupfd drop 77 5 store 78 6 store 5 pipe" + show + "5 load" + show + "6 load" + show + "4 close drop 1 close drop 126 pipe drop 126 load" + show + "127 load" + show + idle
	dups := func(fd int) api.Event { return does(1, api.Call{N: api.SysDup, A: 2}, fd) }
	plays(t, runs(t, s), dups(3), dups(4), fails(1, api.Call{N: api.SysPipe, A: 5}, api.EMFILE), shownErr(1, api.EMFILE), shown(1, 77), shown(1, 78),
		does(1, api.Call{N: api.SysClose, A: 4}, 0), does(1, api.Call{N: api.SysClose, A: 1}, 0), piped(1, 126, 1, 4), shown(1, 1), shown(1, 4), yields(1))
}

func execs(pid int, path, program string) api.Event {
	return called(pid, api.Call{N: api.SysExec, Text: path}, api.Ret{Data: program})
}

// 23.2: behind SysExec the memory is all 0, the stack empty, the place 0.
func TestExecBeginsAnew(t *testing.T) {
	x := bytesOf(t, "1 0 128 write drop "+strings.Repeat("yield ", 32)+strings.Repeat("drop ", 32)+"getpid"+show+"0 end")
	l := []api.Event{execs(1, "/x", x), writes(1, strings.Repeat("\x00", 128))}
	for range 32 {
		l = append(l, yields(1))
	}
	l = append(l, does(1, api.Call{N: api.SysGetpid}, 1), shown(1, 1), exits(1, 0))
	plays(t, runs(t, `"/x"@0 "zzz"@125 9 9 9 9 9 0 2 exec 5 drop drop drop drop drop drop drop`+idle, file("/x", x)), l...)
}

// 23.2: a SysExec that errs leaves all as it is; the error is on the stack.
func TestExecThatErrs(t *testing.T) {
	for path, e := range map[string]api.Errno{"/no": api.ENOENT, "/d": api.EISDIR, "/f": api.ENOEXEC, "/f/x": api.ENOTDIR, "": api.ENOENT, "/ninechars": api.ENAMETOOLONG} {
		s := fmt.Sprintf(`"%s"@0 7 8 0 %d exec`, path, len(path)) + show + show + show + "1 0 4 write drop" + idle
		text := (path + "\x00\x00\x00\x00")[:4]
		plays(t, runs(t, s, house()...), fails(1, api.Call{N: api.SysExec, Text: path}, e), shownErr(1, e), shown(1, 8), shown(1, 7), writes(1, text), yields(1))
	}
}

// 23.2: a program that is run may be one that a program wrote; that it is changed later plays no part.
func TestExecOfWhatWasWritten(t *testing.T) {
	x := bytesOf(t, `"/x"@0 0 2 unlink drop 1 0 1 write drop 0 end`)
	open := api.Call{N: api.SysOpen, Text: "/x", C: 3}
	s := `"/x"@0 0 2 3 open drop 0 2 100 read drop 3 2 ` + fmt.Sprint(len(x)) + ` write drop 0 2 exec` + show + idle
	cfg := runs(t, s)
	cfg.Input = x
	u := plays(t, cfg, does(1, open, 3), called(1, api.Call{N: api.SysRead, B: 2, C: 100}, api.Ret{N: len(x), Data: x}),
		does(1, api.Call{N: api.SysWrite, A: 3, Text: x}, len(x)), execs(1, "/x", x),
		does(1, api.Call{N: api.SysUnlink, Text: "/x"}, 0), writes(1, "/"), exits(1, 0))
	wantOut(t, u, "/")
	wantTree(t, u, cfg.Tree...)
}

// 23.2: descriptors stay open behind SysExec.
func TestExecKeepsDescriptors(t *testing.T) {
	x := bytesOf(t, "3 0 2 read drop"+idle)
	plays(t, runs(t, `"/f/x"@0 0 2 0 open drop 3 10 1 read drop 2 2 exec drop`+idle, file("/f", "hello"), file("/x", x)),
		does(1, api.Call{N: api.SysOpen, Text: "/f"}, 3), called(1, api.Call{N: api.SysRead, A: 3, B: 10, C: 1}, api.Ret{N: 1, Data: "h"}),
		execs(1, "/x", x), called(1, api.Call{N: api.SysRead, A: 3, C: 2}, api.Ret{N: 2, Data: "el"}), yields(1))
}

// 23.2: a child is the same but for 0 on its stack, and neither sees what the other one writes later.
func TestForkedChild(t *testing.T) {
	s := `"AB"@0 5 6 fork` + show + `"C"@1 1 0 2 write drop` + show + show + `"D"@0 1 0 2 write drop 0 end`
	cfg := runs(t, s)
	u := plays(t, cfg, forks(1, 2),
		shown(1, 2), writes(1, "AC"), shown(1, 6), shown(1, 5), writes(1, "DC"),
		shown(2, 0), writes(2, "AC"), exits(1, 0), shown(2, 6), shown(2, 5), writes(2, "DC"), exits(2, 0))
	wantOut(t, u, "ACDCACDC")
	s = `"AB"@0 fork zero:child "P"@0 yield drop 1 0 2 write drop "P"@1 yield drop 1 0 2 write drop` + idle + `child: 1 0 2 write drop "C"@1 1 0 2 write drop` + idle2
	plays(t, runs(t, s), forks(1, 2), yields(1), writes(2, "AB"), writes(1, "PB"), writes(2, "AC"), yields(1), writes(1, "PP"), yields(2))
	plays(t, runs(t, s), forks(1, 2), writes(2, "AB"), writes(2, "AC"), yields(1), writes(1, "PB"), yields(1), writes(1, "PP"), yields(2)) // and the other way about
}

// 23.2: eight processes, and a ninth that there is no pid for; pids that are free again are had again.
func TestForksUpToEight(t *testing.T) {
	cfg := runs(t, "all: fork zero:child jump:all child: 3 end")
	var l []api.Event
	for child := 2; child <= 8; child++ {
		l = append(l, forks(1, child))
	}
	full := fails(1, api.Call{N: api.SysFork}, api.EAGAIN)
	u := plays(t, cfg, append(l, full, full)...)
	wantLive(t, u, 1, 2, 3, 4, 5, 6, 7, 8)
	wantSteps(t, u, exits(5, 3), full, exits(8, 3))
	wantLive(t, u, 1, 2, 3, 4, 6, 7)

	cfg = runs(t, "fork zero:child yield drop 0 wait drop fork zero:child"+idle+"child: 3 end")
	u = plays(t, cfg, forks(1, 2), exits(2, 3), yields(1), nothing(2), waited(1, 0, 2, 3), forks(1, 2), exits(2, 3), yields(1))
	wantLive(t, u, 1)
}

// 23.2: who ends is gone; its status is the lowest 8 bits, its children live on.
func TestExit(t *testing.T) {
	for _, status := range append(farWords(), 0, 1, 127, 128, 255) {
		s := fmt.Sprintf("fork zero:child 9 wait drop 9 load"+show+"0 end child: #%d exit drop again: jump:again", status)
		u := plays(t, runs(t, s), forks(1, 2), nothing(1), exits(2, status), nothing(2), waited(1, 9, 2, int(status%256)), shown(1, status%256), exits(1, 0), nothing(1))
		wantLive(t, u)
	}
	u := plays(t, runs(t, "fork zero:child 0 end child: fork drop"+idle), forks(1, 2), forks(2, 3), exits(1, 0), yields(3), yields(2))
	wantLive(t, u, 2, 3)
	if _, told := u.Step(1, 200); told {
		t.Error("1 is gone, and runs")
	}
}

// waits asks that a Step tells nothing, and again, and that nothing can be told from what was.
func waits(t *testing.T, u *uspec.Spec, pid int) {
	t.Helper()
	before := looked(u)
	for _, fuel := range []int{200, 1, 200, 0, -1, 1000} {
		wantNothing(t, u, pid, fuel)
	}
	if !looked(u).same(before) {
		t.Errorf("%d waits, and changes something", pid)
	}
}

// 23.2: a wait for a child, till one has ended; which one does not matter.
func TestWaitForAChild(t *testing.T) {
	s := "fork zero:child fork zero:child 77 9 store 9 wait drop 9 load" + show + idle + "child: getpid exit drop again2: jump:again2"
	for first := 2; first <= 3; first++ {
		u := plays(t, runs(t, s), forks(1, 2), forks(1, 3), nothing(1))
		waits(t, u, 1)
		wantSteps(t, u, does(first, api.Call{N: api.SysGetpid}, first))
		waits(t, u, 1)
		wantSteps(t, u, exits(first, uint64(first)), waited(1, 9, first, first), shown(1, uint64(first)), yields(1))
	}
}

// 23.2: a read of an empty pipe, till there is something, or nobody may write any more.
func TestReadOfAnEmptyPipe(t *testing.T) {
	s := `"AB"@30 0 pipe drop fork zero:child 3 close drop 4 30 2 write drop 4 close drop` + idle + `child: 4 close drop 3 30 5 read` + show + "3 30 5 read" + show + "1 30 2 write drop" + idle2
	closes := func(pid int, fd uint64) api.Event { return does(pid, api.Call{N: api.SysClose, A: fd}, 0) }
	reads := func(data string) api.Event {
		return called(2, api.Call{N: api.SysRead, A: 3, B: 30, C: 5}, api.Ret{N: len(data), Data: data})
	}
	u := plays(t, runs(t, s), piped(1, 0, 3, 4), forks(1, 2), closes(2, 4), nothing(2), closes(1, 3), nothing(2))
	waits(t, u, 2)
	wantSteps(t, u, does(1, api.Call{N: api.SysWrite, A: 4, Text: "AB"}, 2), reads("AB"), shown(2, 2), nothing(2))
	waits(t, u, 2)
	wantSteps(t, u, closes(1, 4), reads(""), shown(2, 0), writes(2, "AB"), yields(2))
}

// 23.2: a write to a full pipe, till there is room: it writes as much as there is room for.
func TestWriteToAFullPipe(t *testing.T) {
	s := `"ABCDEFGHIJK"@30 0 pipe drop fork zero:child 4 30 11 write` + show + "4 38 3 write" + show + idle + `child: 3 60 2 read` + show + "3 60 9 read" + show + idle2
	writesTo := func(text string, n int) api.Event {
		return does(1, api.Call{N: api.SysWrite, A: 4, Text: text}, n)
	}
	reads := func(c uint64, data string) api.Event {
		return called(2, api.Call{N: api.SysRead, A: 3, B: 60, C: c}, api.Ret{N: len(data), Data: data})
	}
	u := plays(t, runs(t, s), piped(1, 0, 3, 4), forks(1, 2), nothing(2), writesTo("ABCDEFGHIJK", 8), shown(1, 8), nothing(1))
	waits(t, u, 1)
	wantSteps(t, u, reads(2, "AB"), writesTo("IJK", 2), shown(1, 2), shown(2, 2), reads(9, "CDEFGHIJ"), shown(2, 8), yields(2), yields(1))
}

// 23.2: who waits runs on from there when it is tried again, its numbers as they were.
func TestWhatWaitsKeepsItsNumbers(t *testing.T) {
	s := "0 pipe drop 5 6 3 30 0 read" + show + "3 30 1 read" + show + show + show + idle
	u := plays(t, runs(t, s), piped(1, 0, 3, 4), called(1, api.Call{N: api.SysRead, A: 3, B: 30}, api.Ret{}), shown(1, 0), nothing(1))
	for range 20 {
		waits(t, u, 1)
	}
}

// 23.2: what the console has left is everybody's.
func TestOneInputForAll(t *testing.T) {
	cfg := runs(t, "fork drop again: 0 50 2 read drop jump:again")
	cfg.Input = "abcde"
	reads := func(pid int, data string) api.Event {
		return called(pid, api.Call{N: api.SysRead, B: 50, C: 2}, api.Ret{N: len(data), Data: data})
	}
	plays(t, cfg, forks(1, 2), reads(2, "ab"), reads(1, "cd"), reads(2, "e"), reads(1, ""), reads(2, ""))
	cfg.Input = ""
	plays(t, cfg, forks(1, 2), reads(2, ""), reads(1, ""))
}
