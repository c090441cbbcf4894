package uspec_test

import (
	"fmt"
	"math"
	"slices"
	"strconv"
	"strings"
	"testing"

	"janus/api"
	"janus/code"
	"janus/uspec"
	"janus/valid"
)

const (
	byDefault uint64 = 1<<64 - 1
	toIgnore  uint64 = 1<<64 - 2
)

// opNames are the operations without an operand.
var opNames = map[string]int{
	"dup": api.OpDup, "drop": api.OpDrop, "swap": api.OpSwap, "over": api.OpOver, "add": api.OpAdd, "sub": api.OpSub, "mul": api.OpMul, "div": api.OpDiv, "mod": api.OpMod,
	"and": api.OpAnd, "or": api.OpOr, "xor": api.OpXor, "shl": api.OpShl, "shr": api.OpShr, "less": api.OpLess, "equal": api.OpEqual, "not": api.OpNot, "load": api.OpLoad, "store": api.OpStore,
}

var callNames = map[string]int{
	"exit": api.SysExit, "fork": api.SysFork, "exec": api.SysExec, "wait": api.SysWait, "open": api.SysOpen, "close": api.SysClose, "read": api.SysRead, "write": api.SysWrite,
	"pipe": api.SysPipe, "dupfd": api.SysDup, "unlink": api.SysUnlink, "mkdir": api.SysMkdir, "link": api.SysLink, "rename": api.SysRename, "kill": api.SysKill,
	"signal": api.SysSignal, "getpid": api.SysGetpid, "sigret": api.SysSigret, "yield": api.SysYield,
}

// show is words that tell the top by a call that does nothing: no program has a place 255.
const show = " 255 signal drop "

// program is a program's bytes, and its places by their names.
type program struct {
	s      string
	places map[string]int
}

// assembled is the program of these words: a number is pushed, as a word if # is ahead of it, name: is a place, jump:name and zero:name go there, @name is pushed as a number, "text"@at stores the text's bytes from at on, end is an exit and what must stand behind one, all others are operations or calls.
func assembled(t *testing.T, words string) program {
	t.Helper()
	p := spelt(t, words)
	if e := valid.Check(p.s); e != api.OK {
		t.Fatalf("%q may not be run: %d bytes, %q", words, len(p.s), p.s)
	}
	return p
}

// spelt is assembled, where the program need not be one that may be run.
func spelt(t *testing.T, words string) program {
	t.Helper()
	p := program{places: map[string]int{}}
	for range 2 { // the places are known in the second round alone
		p.s = ""
		for _, w := range strings.Fields(words) {
			if name, is := strings.CutSuffix(w, ":"); is {
				p.places[name] = len(p.s)
				continue
			}
			p.add(t, w)
		}
	}
	return p
}

// add lets one word more be of the program.
func (p *program) add(t *testing.T, w string) {
	t.Helper()
	l := p.instructions(t, w)
	if w == "end" {
		l = []api.Ins{sys(api.SysExit), {Op: api.OpDrop}, {Op: api.OpJump, Arg: uint64(len(p.s) + 3)}}
	}
	s, e := code.Encode(l)
	if e != api.OK {
		t.Fatalf("%q can't be told in bytes", w)
	}
	p.s += s
}

// bytesOf is the bytes of a program.
func bytesOf(t *testing.T, words string) string {
	t.Helper()
	return assembled(t, words).s
}

// placeOf is the place of that name in a program.
func placeOf(t *testing.T, words, name string) uint64 {
	t.Helper()
	at, is := assembled(t, words).places[name]
	if !is {
		t.Fatalf("there is no %s: in %q", name, words)
	}
	return uint64(at)
}

func sys(n int) api.Ins { return api.Ins{Op: api.OpSys, Arg: uint64(n)} }

// instructions are those of a word; none of end.
func (p *program) instructions(t *testing.T, w string) []api.Ins {
	t.Helper()
	if w == "end" {
		return nil
	}
	if n, err := strconv.ParseUint(w, 10, 64); err == nil {
		return []api.Ins{number(n)}
	}
	if n, err := strconv.ParseUint(strings.TrimPrefix(w, "#"), 10, 64); err == nil {
		return []api.Ins{{Op: api.OpWord, Arg: n}}
	}
	if o, is := opNames[w]; is {
		return []api.Ins{{Op: o}}
	}
	if n, is := callNames[w]; is {
		return []api.Ins{sys(n)}
	}
	if name, is := strings.CutPrefix(w, "jump:"); is {
		return []api.Ins{{Op: api.OpJump, Arg: uint64(p.places[name])}}
	}
	if name, is := strings.CutPrefix(w, "zero:"); is {
		return []api.Ins{{Op: api.OpZero, Arg: uint64(p.places[name])}}
	}
	if name, is := strings.CutPrefix(w, "@"); is {
		return []api.Ins{{Op: api.OpPush, Arg: uint64(p.places[name])}}
	}
	text, at, is := strings.Cut(strings.TrimPrefix(w, `"`), `"@`)
	from, err := strconv.Atoi(at)
	if !is || err != nil {
		t.Fatalf("%q is no word of a program", w)
	}
	var l []api.Ins
	for i := range len(text) {
		l = append(l, number(uint64(text[i])), number(uint64(from+i)), api.Ins{Op: api.OpStore})
	}
	return l
}

func number(n uint64) api.Ins {
	if n < 256 {
		return api.Ins{Op: api.OpPush, Arg: n}
	}
	return api.Ins{Op: api.OpWord, Arg: n}
}

func file(path, data string) api.Node { return api.Node{Path: path, Data: data} }
func folder(path string) api.Node     { return api.Node{Path: path, Dir: true} }

// runs is a machine whose /init is that program, with other files beside it.
func runs(t *testing.T, words string, others ...api.Node) api.Config {
	t.Helper()
	return api.Config{Tree: append([]api.Node{file("/init", bytesOf(t, words))}, others...), Input: typed}
}

const typed = "typed words, as many as are read of them"

func made(t *testing.T, cfg api.Config) *uspec.Spec {
	t.Helper()
	u, e := uspec.New(cfg)
	if u == nil || e != api.OK {
		t.Fatalf("New answers %v, %d", u, e)
	}
	return u
}

func called(pid int, x api.Call, r api.Ret) api.Event {
	return api.Event{Kind: api.EvCall, Pid: pid, Call: x, Ret: r}
}

func does(pid int, x api.Call, n int) api.Event { return called(pid, x, api.Ret{N: n}) }

func fails(pid int, x api.Call, e api.Errno) api.Event { return called(pid, x, api.Ret{Err: e}) }

func comes(pid, sig int) api.Event { return api.Event{Kind: api.EvSignal, Pid: pid, Sig: sig} }

func dies(pid, sig int) api.Event { return api.Event{Kind: api.EvKilled, Pid: pid, Sig: sig} }

// shown is what show tells of x.
func shown(pid int, x uint64) api.Event {
	return fails(pid, api.Call{N: api.SysSignal, A: x, B: 255}, api.EINVAL)
}

// shownErr is what it tells of an error.
func shownErr(pid int, e api.Errno) api.Event { return shown(pid, -uint64(e)) }

// writes is the console's text.
func writes(pid int, text string) api.Event {
	return does(pid, api.Call{N: api.SysWrite, A: 1, Text: text}, len(text))
}

func forks(pid, child int) api.Event { return does(pid, api.Call{N: api.SysFork}, child) }

func exits(pid int, status uint64) api.Event {
	return does(pid, api.Call{N: api.SysExit, A: status}, 0)
}

func yields(pid int) api.Event { return does(pid, api.Call{N: api.SysYield}, 0) }

// nothing is an event of that pid that is none.
func nothing(pid int) api.Event { return api.Event{Pid: pid} }

// wantSteps asks for these events, one in each Step of its Pid, or for none where it is nothing.
func wantSteps(t *testing.T, u *uspec.Spec, l ...api.Event) {
	t.Helper()
	for i, want := range l {
		got, told := u.Step(want.Pid, api.MaxFuel)
		if want == nothing(want.Pid) {
			want.Pid = 0
		}
		if got != want || told != (want.Kind != 0) {
			t.Fatalf("step %d: %v, %v, want %v", i, got, told, want)
		}
	}
}

// plays asks for these events of a new state, and answers that.
func plays(t *testing.T, cfg api.Config, l ...api.Event) *uspec.Spec {
	t.Helper()
	u := made(t, cfg)
	wantSteps(t, u, l...)
	wantFollowed(t, cfg, slices.DeleteFunc(slices.Clone(l), func(x api.Event) bool { return x.Kind == 0 }))
	return u
}

// wantFollowed asks that all of them may be shown.
func wantFollowed(t *testing.T, cfg api.Config, l []api.Event) {
	t.Helper()
	if n := uspec.Follow(cfg, l); n != len(l) {
		t.Fatalf("Follow takes %d of %v", n, l)
	}
}

func wantLive(t *testing.T, u *uspec.Spec, want ...int) {
	t.Helper()
	if got := u.Live(); !slices.Equal(got, want) {
		t.Errorf("Live() = %v, want %v", got, want)
	}
}

func wantOut(t *testing.T, u *uspec.Spec, want string) {
	t.Helper()
	if got := u.Out(); got != want {
		t.Errorf("Out() = %q, want %q", got, want)
	}
}

func wantTree(t *testing.T, u *uspec.Spec, want ...api.Node) {
	t.Helper()
	if got := u.Tree(); !slices.Equal(got, want) {
		t.Errorf("Tree() = %v, want %v", got, want)
	}
}

// look is all that a state tells without a Step.
type look struct {
	live []int
	out  string
	tree []api.Node
}

func looked(u *uspec.Spec) look { return look{u.Live(), u.Out(), u.Tree()} }

func (a look) same(b look) bool {
	return slices.Equal(a.live, b.live) && a.out == b.out && slices.Equal(a.tree, b.tree)
}

// short tells a long thing by its front alone.
func short(x any) string {
	s := fmt.Sprint(x)
	return s[:min(300, len(s))]
}

// farOff is numbers far beyond both ends, among them some that would be small ones if some of their bits were lost.
func farOff() []int {
	return []int{-2, -8, -9, 16, 63, 64, 129, 255, 256, 257, 258, 1 << 16, 1<<16 + 1, 1 << 31, 1 << 32, 1<<32 + 1, 1<<32 + 2, 1<<32 - 1, -1 << 31, -1 << 32, -1<<32 + 1, 1 << 62, -1 << 62, math.MinInt, math.MinInt + 1, math.MaxInt - 1, math.MaxInt}
}

// noPids is numbers of which none is a process's.
func noPids() []int { return append(farOff(), 0, -1, 9, 10) }

// farWords is words past the memory's end, some of them beyond an int.
func farWords() []uint64 {
	return []uint64{129, 130, 255, 256, 257, 1 << 16, 1 << 31, 1 << 32, 1<<32 + 1, 1<<63 - 1, 1 << 63, 1<<63 + 1, 1<<64 - 129, 1<<64 - 128, 1<<64 - 127, 1<<64 - 2, 1<<64 - 1}
}
