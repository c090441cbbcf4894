package uspec_test

import (
	"fmt"
	"strings"
	"testing"

	"janus/api"
	"janus/valid"
)

// asked is a program that makes a call with these numbers, the first one lowest, behind other words, and shows what it answers.
func asked(ahead, call string, numbers ...uint64) string {
	for _, n := range numbers {
		ahead += fmt.Sprintf(" %d ", n)
	}
	return ahead + " " + call + show + idle
}

// house is what stands beside /init.
func house() []api.Node {
	return nodes(folder("/d"), file("/d/g", "inner"), folder("/e"), file("/f", "hello"))
}

// wantCall asks for that event behind so many others, and that its result is on the stack then.
func wantCall(t *testing.T, cfg api.Config, ahead int, want api.Event) {
	t.Helper()
	u := made(t, cfg)
	for range ahead {
		if _, told := u.Step(1, 200); !told {
			t.Fatalf("%v: a step ahead of it tells nothing", want)
		}
	}
	x := uint64(want.Ret.N)
	if want.Ret.Err != api.OK {
		x = -uint64(want.Ret.Err)
	}
	wantSteps(t, u, want, shown(1, x), yields(1))
}

// 23.2: which of a call's numbers are A, B and C, and which name texts.
func TestEachCall(t *testing.T) {
	const big = 1<<64 - 1<<40
	texts := `"/f"@3 "/d/x"@20`
	for _, x := range []struct {
		name    string
		numbers []uint64
		call    api.Call
		ret     api.Ret
	}{
		{"fork", nil, api.Call{}, api.Ret{N: 2}},
		{"exec", []uint64{20, 4}, api.Call{Text: "/d/x"}, api.Ret{Err: api.ENOENT}},
		{"exec", []uint64{3, 2}, api.Call{Text: "/f"}, api.Ret{Err: api.ENOEXEC}},
		{"exec", []uint64{20, 2}, api.Call{Text: "/d"}, api.Ret{Err: api.EISDIR}},
		{"wait", []uint64{127}, api.Call{A: 127}, api.Ret{Err: api.ECHILD}},
		{"open", []uint64{3, 2, 0}, api.Call{Text: "/f"}, api.Ret{N: 3}},
		{"open", []uint64{20, 4, 1}, api.Call{Text: "/d/x", C: 1}, api.Ret{N: 3}},
		{"open", []uint64{20, 4, big}, api.Call{Text: "/d/x", C: big}, api.Ret{Err: api.EINVAL}},
		{"open", []uint64{20, 4, 6}, api.Call{Text: "/d/x", C: 6}, api.Ret{Err: api.ENOENT}},
		{"close", []uint64{2}, api.Call{A: 2}, api.Ret{}},
		{"close", []uint64{big}, api.Call{A: big}, api.Ret{Err: api.EBADF}},
		{"read", []uint64{0, 100, 5}, api.Call{A: 0, B: 100, C: 5}, api.Ret{N: 5, Data: "typed"}},
		{"read", []uint64{big, 100, 5}, api.Call{A: big, B: 100, C: 5}, api.Ret{Err: api.EBADF}},
		{"write", []uint64{2, 20, 3}, api.Call{A: 2, Text: "/d/"}, api.Ret{N: 3}},
		{"write", []uint64{big, 20, 3}, api.Call{A: big, Text: "/d/"}, api.Ret{Err: api.EBADF}},
		{"pipe", []uint64{126}, api.Call{A: 126}, api.Ret{Two: [2]int{3, 4}}},
		{"dupfd", []uint64{1}, api.Call{A: 1}, api.Ret{N: 3}},
		{"dupfd", []uint64{big}, api.Call{A: big}, api.Ret{Err: api.EBADF}},
		{"unlink", []uint64{3, 2}, api.Call{Text: "/f"}, api.Ret{}},
		{"unlink", []uint64{20, 2}, api.Call{Text: "/d"}, api.Ret{Err: api.EISDIR}},
		{"mkdir", []uint64{20, 4}, api.Call{Text: "/d/x"}, api.Ret{}},
		{"mkdir", []uint64{3, 2}, api.Call{Text: "/f"}, api.Ret{Err: api.EEXIST}},
		{"link", []uint64{3, 2, 20, 4}, api.Call{Text: "/f", Text2: "/d/x"}, api.Ret{}},
		{"link", []uint64{20, 4, 3, 2}, api.Call{Text: "/d/x", Text2: "/f"}, api.Ret{Err: api.ENOENT}},
		{"rename", []uint64{3, 2, 20, 4}, api.Call{Text: "/f", Text2: "/d/x"}, api.Ret{}},
		{"rename", []uint64{20, 2, 20, 4}, api.Call{Text: "/d", Text2: "/d/x"}, api.Ret{Err: api.EINVAL}},
		{"kill", []uint64{1, 0}, api.Call{A: 1}, api.Ret{}},
		{"kill", []uint64{big, 9}, api.Call{A: big, B: 9}, api.Ret{Err: api.ESRCH}},
		{"kill", []uint64{1, big}, api.Call{A: 1, B: big}, api.Ret{Err: api.EINVAL}},
		{"signal", []uint64{3, byDefault}, api.Call{A: 3, B: byDefault}, api.Ret{}},
		{"signal", []uint64{9, 0}, api.Call{A: 9}, api.Ret{Err: api.EINVAL}},
		{"signal", []uint64{big, 0}, api.Call{A: big}, api.Ret{Err: api.EINVAL}},
		{"getpid", nil, api.Call{}, api.Ret{N: 1}},
		{"sigret", nil, api.Call{}, api.Ret{Err: api.EINVAL}},
		{"yield", nil, api.Call{}, api.Ret{}},
	} {
		x.call.N = callNames[x.name]
		wantCall(t, runs(t, asked(texts, x.name, x.numbers...), house()...), 0, called(1, x.call, x.ret))
	}
}

// 23.2: a call takes its own numbers alone off the stack, and those beneath them stay.
func TestCallLeavesWhatIsBeneath(t *testing.T) {
	for _, call := range []string{"getpid", "2 close", "9 9 kill", "0 0 0 read", "0 0 0 0 link"} {
		s := "5 6 " + call + " drop" + show + show + idle
		u := made(t, runs(t, s))
		u.Step(1, 200)
		wantSteps(t, u, shown(1, 6), shown(1, 5), yields(1))
	}
}

// 23.2: a text is the lowest 8 bits of so many words.
func TestTextsAreLowestBits(t *testing.T) {
	s := "256 5 store 18446744073709551615 6 store 4294967617 7 store 1 5 4 write" + show + idle
	wantCall(t, runs(t, s), 0, writes(1, "\x00\xff\x41\x00"))
}

// textCalls are the calls that have a text, each with the numbers that it takes of one that lies there, and what stands in its Call beside that.
func textCalls() map[string]func(at, words uint64) ([]uint64, api.Call) {
	alone := func(at, words uint64) ([]uint64, api.Call) { return []uint64{at, words}, api.Call{} }
	both := func(at, words uint64) ([]uint64, api.Call) { return []uint64{at, words, 0, 0}, api.Call{} }
	return map[string]func(at, words uint64) ([]uint64, api.Call){
		"exec": alone, "unlink": alone, "mkdir": alone, "link": both, "rename": both,
		"open":  func(at, words uint64) ([]uint64, api.Call) { return []uint64{at, words, 3}, api.Call{C: 3} },
		"write": func(at, words uint64) ([]uint64, api.Call) { return []uint64{1, at, words}, api.Call{A: 1} },
	}
}

// spans are of words within 128, and of those that are not.
func spans() (within, beyond [][2]uint64) {
	within = [][2]uint64{{0, 0}, {0, 1}, {0, 127}, {0, 128}, {1, 127}, {64, 64}, {126, 2}, {127, 1}, {127, 0}, {128, 0}}
	beyond = [][2]uint64{{0, 129}, {1, 128}, {64, 65}, {126, 3}, {127, 2}, {128, 1}, {128, 128}, {129, 0}, {129, 1}}
	for _, n := range farWords() {
		beyond = append(beyond, [2]uint64{n, 0}, [2]uint64{n, 1}, [2]uint64{0, n}, [2]uint64{128, n}, [2]uint64{n, n}, [2]uint64{n, -n}, [2]uint64{-n, n}, [2]uint64{n, 128 - n})
	}
	return within, beyond
}

// lies says for spans whether they are within 128 words, without a sum that could go round.
func lies(s [2]uint64) bool { return s[0] <= 128 && s[1] <= 128 && s[0]+s[1] <= 128 }

// 23.2: texts at the edges of the memory, and beyond them: then nothing is done.
func TestTextsAtTheEdges(t *testing.T) {
	within, beyond := spans()
	all := "ABC" + strings.Repeat("\x00", 123) + "YZ"
	for name, numbers := range textCalls() {
		for _, s := range append(within, beyond...) {
			l, x := numbers(s[0], s[1])
			x.N = callNames[name]
			cfg := runs(t, asked(`"ABC"@0 "YZ"@126`, name, l...), house()...)
			if !lies(s) {
				wantCall(t, cfg, 0, fails(1, x, api.EFAULT))
				continue
			}
			x.Text = all[s[0] : s[0]+s[1]]
			u := made(t, cfg)
			if got, told := u.Step(1, 200); !told || got.Kind != api.EvCall || got.Call != x || got.Ret.Err == api.EFAULT {
				t.Errorf("%s of %v: %v, %v", name, s, got, told)
			}
		}
	}
}

// 23.2: of two texts the one or the other does not lie within, or neither: that one is "" in the Call.
func TestTwoTexts(t *testing.T) {
	for _, name := range []string{"link", "rename"} {
		for _, bad := range [][2]uint64{{127, 2}, {128, 1}, {129, 0}, {0, 129}, {1 << 63, 1 << 63}, {1<<64 - 1, 1}, {1<<64 - 1, 2}} {
			for _, x := range []struct {
				numbers []uint64
				call    api.Call
			}{
				{[]uint64{3, 2, bad[0], bad[1]}, api.Call{Text: "/f"}},
				{[]uint64{bad[0], bad[1], 20, 4}, api.Call{Text2: "/d/x"}},
				{[]uint64{bad[0], bad[1], bad[0], bad[1]}, api.Call{}},
				{[]uint64{bad[0], bad[1], 128, 0}, api.Call{}},
			} {
				x.call.N = callNames[name]
				cfg := runs(t, asked(`"/f"@3 "/d/x"@20`, name, x.numbers...), house()...)
				wantCall(t, cfg, 0, fails(1, x.call, api.EFAULT))
				u := made(t, cfg)
				u.Step(1, 200)
				wantTree(t, u, made(t, cfg).Tree()...)
			}
		}
	}
}

// 23.2: EFAULT of what a call would lay in memory, at the edges; nothing is done then.
func TestAnswersAtTheEdges(t *testing.T) {
	within, beyond := spans()
	for _, s := range append(within, beyond...) {
		read := fails(1, api.Call{N: api.SysRead, A: 0, B: s[0], C: s[1]}, api.EFAULT)
		if lies(s) {
			read.Ret = api.Ret{N: min(int(s[1]), len(typed))}
			read.Ret.Data = typed[:read.Ret.N]
		}
		wantCall(t, runs(t, asked("", "read", 0, s[0], s[1])), 0, read)
		bad := fails(1, api.Call{N: api.SysRead, A: 77, B: s[0], C: s[1]}, api.EFAULT) // ahead of EBADF
		if lies(s) {
			bad.Ret.Err = api.EBADF
		}
		wantCall(t, runs(t, asked("", "read", 77, s[0], s[1])), 0, bad)
	}
	for _, at := range append(farWords(), 0, 1, 100, 125, 126, 127, 128) {
		wait := fails(1, api.Call{N: api.SysWait, A: at}, api.EFAULT) // ahead of ECHILD
		if at < 128 {
			wait.Ret.Err = api.ECHILD
		}
		wantCall(t, runs(t, asked("", "wait", at)), 0, wait)
		pipe := fails(1, api.Call{N: api.SysPipe, A: at}, api.EFAULT)
		if at < 127 {
			pipe.Ret = api.Ret{Two: [2]int{3, 4}}
		}
		wantCall(t, runs(t, asked("", "pipe", at)), 0, pipe)
	}
}

// 23.2: of a call that is EFAULT nothing is done: what it would have taken is there still.
func TestNothingIsDoneOfAFault(t *testing.T) {
	reads := func(b, c uint64, r api.Ret) api.Event { return called(1, api.Call{N: api.SysRead, B: b, C: c}, r) }
	plays(t, runs(t, "0 127 2 read drop 0 127 1 read drop"+idle), reads(127, 2, api.Ret{Err: api.EFAULT}), reads(127, 1, api.Ret{N: 1, Data: "t"}), yields(1))

	cfg := runs(t, "fork zero:child 128 wait drop 127 wait drop 127 load"+show+idle+"child: 5 end")
	plays(t, cfg, forks(1, 2), fails(1, api.Call{N: api.SysWait, A: 128}, api.EFAULT), nothing(1), exits(2, 5), waited(1, 127, 2, 5), shown(1, 5))
	cfg = runs(t, "fork zero:child yield drop 128 wait drop 127 wait drop"+idle+"child: 5 end")
	plays(t, cfg, forks(1, 2), exits(2, 5), yields(1), fails(1, api.Call{N: api.SysWait, A: 128}, api.EFAULT), waited(1, 127, 2, 5)) // 2 was a zombie still

	plays(t, runs(t, "127 pipe drop 126 pipe drop 126 load"+show+"127 load"+show+idle), fails(1, api.Call{N: api.SysPipe, A: 127}, api.EFAULT), piped(1, 126, 3, 4), shown(1, 3), shown(1, 4))
	u := plays(t, runs(t, "1 127 2 write drop"+idle), fails(1, api.Call{N: api.SysWrite, A: 1}, api.EFAULT), yields(1))
	wantOut(t, u, "")
}

// 23.2: what may be a handler: default, to ignore, and a place of its program at which the depth is 0.
func TestHandlers(t *testing.T) {
	rows := "1 zero:h 3 #%d signal" + show + idle + "h: yield drop jump:h"
	bytes := func(n uint64) string { return bytesOf(t, fmt.Sprintf(rows, n)) }
	numbers := append(farWords(), 18446744073709551613, 1<<63+5, 1<<32+5, 1<<16+5)
	for n := range uint64(len(bytes(0)) + 2) {
		numbers = append(numbers, n)
	}
	may := 0
	for _, n := range append(numbers, 191, 192, 193) {
		want := fails(1, api.Call{N: api.SysSignal, A: 3, B: n}, api.EINVAL)
		if n == byDefault || n == toIgnore || n < 256 && valid.Entry(bytes(n), int(n)) {
			want = handles(1, 3, n)
			may++
		}
		wantCall(t, api.Config{Tree: nodes(file("/init", bytes(n)))}, 0, want)
	}
	if may != 2+6 { // byte 0, behind zero, again and h with their jumps
		t.Errorf("%d may be handlers", may)
	}
}

// 23.2: chapter 22's EINVAL of a signal that can't have a handler, whatever that is.
func TestHandlersOfNoSignal(t *testing.T) {
	for _, sig := range append(farWords(), 0, 9, 16, 17) {
		for _, handler := range []uint64{byDefault, toIgnore, 0, 1, 500} {
			wantCall(t, runs(t, asked("", "signal", sig, handler)), 0, fails(1, api.Call{N: api.SysSignal, A: sig, B: handler}, api.EINVAL))
		}
	}
}

// 23.2: a place of what it was begun with is none of what it runs now.
func TestHandlersOfTheProgramThatRuns(t *testing.T) {
	x := bytesOf(t, "1 zero:h 3 #14 signal"+show+idle+"h: yield drop jump:h")
	s := `"/x"@0 3 @h signal` + show + "0 2 exec drop h: " + idle
	h := placeOf(t, s, "h")
	if valid.Entry(x, 14) || valid.Entry(x, int(h)) || !valid.Entry(bytesOf(t, s), int(h)) {
		t.Fatal("the programs are not such")
	}
	u := plays(t, runs(t, s, file("/x", x)), handles(1, 3, h), shown(1, 0), called(1, api.Call{N: api.SysExec, Text: "/x"}, api.Ret{Data: x}),
		fails(1, api.Call{N: api.SysSignal, A: 3, B: 14}, api.EINVAL), shownErr(1, api.EINVAL), yields(1))
	wantLive(t, u, 1)
}
