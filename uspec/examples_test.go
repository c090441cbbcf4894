package uspec_test

import (
	"testing"

	"janus/api"
)

// The ten examples of the whole, on the abstract system.

func TestHello(t *testing.T) {
	u := plays(t, runs(t, `"hello"@0 1 0 5 write drop 0 end`), writes(1, "hello"), exits(1, 0))
	wantOut(t, u, "hello")
}

func TestTwoAddToOneFile(t *testing.T) {
	s := `"/f"@0 0 2 5 open drop fork zero:child "a"@5 again: 3 5 1 write drop jump:again child: "b"@5 jump:again`
	adds := func(pid int, text string) api.Event {
		return does(pid, api.Call{N: api.SysWrite, A: 3, Text: text}, 1)
	}
	cfg := runs(t, s)
	u := plays(t, cfg, does(1, api.Call{N: api.SysOpen, Text: "/f", C: 5}, 3), forks(1, 2), adds(1, "a"), adds(2, "b"), adds(2, "b"), adds(1, "a"))
	wantTree(t, u, file("/f", "abba"), cfg.Tree[0])
}

func TestEachReadsItsOwn(t *testing.T) {
	s := "fork 9 store 9 load" + show + "9 load 5 add 9 store 9 load" + show + "0 end"
	plays(t, runs(t, s), forks(1, 2), shown(1, 2), shown(2, 0), shown(2, 5), shown(1, 7))
}

func TestReaderComesFirst(t *testing.T) {
	s := `"xyz"@20 0 pipe drop fork zero:child 4 20 3 write drop` + idle + "child: 3 40 3 read drop 1 40 3 write drop 0 end"
	u := plays(t, runs(t, s), piped(1, 0, 3, 4), forks(1, 2), nothing(2), nothing(2), does(1, api.Call{N: api.SysWrite, A: 4, Text: "xyz"}, 3),
		called(2, api.Call{N: api.SysRead, A: 3, B: 40, C: 3}, api.Ret{N: 3, Data: "xyz"}), writes(2, "xyz"), exits(2, 0), yields(1))
	wantOut(t, u, "xyz")
}

func TestReadersAreGone(t *testing.T) {
	s := "0 pipe drop fork zero:child 3 close drop 4 0 1 write" + show + "0 end child: 3 close drop 0 end"
	closes := func(pid int) api.Event { return does(pid, api.Call{N: api.SysClose, A: 3}, 0) }
	writesTo := api.Call{N: api.SysWrite, A: 4, Text: "\x03"}
	plays(t, runs(t, s), piped(1, 0, 3, 4), forks(1, 2), closes(1), does(1, writesTo, 1), shown(1, 1))
	plays(t, runs(t, s), piped(1, 0, 3, 4), forks(1, 2), closes(1), closes(2), fails(1, writesTo, api.EPIPE), dies(1, 13))
}

func TestExecOfNoProgram(t *testing.T) {
	plays(t, runs(t, `"/f"@0 0 2 exec`+show+"0 end", file("/f", "text")), fails(1, api.Call{N: api.SysExec, Text: "/f"}, api.ENOEXEC), shownErr(1, api.ENOEXEC), exits(1, 0))
}

func TestHandlerRunsAhead(t *testing.T) {
	s := `1 zero:h 10 @h signal drop 1 10 kill drop "b"@0 1 0 1 write drop 0 end h: "a"@1 1 1 1 write drop sigret drop jump:h`
	h := placeOf(t, s, "h")
	u := plays(t, runs(t, s), handles(1, 10, h), sends(1, 1, 10), comes(1, 10), writes(1, "a"), returns(1), writes(1, "b"), exits(1, 0))
	wantOut(t, u, "ab")
}

func TestKillOfWhoWaits(t *testing.T) {
	s := "0 pipe drop fork zero:child 2 9 kill drop 9 wait drop 0 end child: 3 40 3 read drop 0 end"
	u := plays(t, runs(t, s), piped(1, 0, 3, 4), forks(1, 2), nothing(2), sends(1, 2, 9), dies(2, 9), nothing(2), waited(1, 9, 2, 137), exits(1, 0))
	wantLive(t, u)
}

func TestUnlinkedWhileOpen(t *testing.T) {
	s := `"/f"@0 0 2 0 open drop 0 2 unlink drop 3 9 5 read drop 3 close drop 0 2 0 open` + show + "0 end"
	cfg := runs(t, s, file("/f", "hello"))
	open := api.Call{N: api.SysOpen, Text: "/f"}
	u := plays(t, cfg, does(1, open, 3), does(1, api.Call{N: api.SysUnlink, Text: "/f"}, 0), called(1, api.Call{N: api.SysRead, A: 3, B: 9, C: 5}, api.Ret{N: 5, Data: "hello"}),
		does(1, api.Call{N: api.SysClose, A: 3}, 0), fails(1, open, api.ENOENT), shownErr(1, api.ENOENT))
	wantTree(t, u, cfg.Tree[0])
}

func TestWaitWithoutChildren(t *testing.T) {
	plays(t, runs(t, "9 wait"+show+"0 end"), fails(1, api.Call{N: api.SysWait, A: 9}, api.ECHILD), shownErr(1, api.ECHILD), exits(1, 0))
}
