package uspec_test

import (
	"fmt"
	"slices"
	"testing"

	"janus/api"
	"janus/blocks"
	"janus/code"
	"janus/fscore"
	"janus/unix"
	"janus/uspec"
	"janus/valid"
)

// place is where a process of the model is in its program, and its stack.
type place struct {
	pc    int
	stack []uint64
}

// mind is a process of the model; words that are not there are 0.
type mind struct {
	place
	program string
	words   map[uint64]uint64
	kept    *place // where it comes back to from a handler
}

// model is the chapter once more, on maps; what a call does it asks of chapter 22.
type model struct {
	core    *unix.Core
	disk    *blocks.Disk
	in, out string
	minds   map[int]*mind
}

func newModel(t *testing.T, cfg api.Config) *model {
	t.Helper()
	m := &model{core: unix.New(), disk: blocks.New(1024), in: cfg.Input, minds: map[int]*mind{}}
	if e := fscore.Make(m.disk, 1024, cfg.Tree); e != api.OK {
		t.Fatalf("Make answers %d", e)
	}
	m.core.Begin(1)
	last := slices.IndexFunc(cfg.Tree, func(x api.Node) bool { return x.Path == "/init" })
	m.minds[1] = &mind{program: cfg.Tree[last].Data, words: map[uint64]uint64{}}
	return m
}

func (x *mind) pop() uint64 {
	n := x.stack[len(x.stack)-1]
	x.stack = x.stack[:len(x.stack)-1]
	return n
}

func (x *mind) push(n uint64) { x.stack = append(slices.Clone(x.stack), n) }

// reckoned is what two numbers come to; false, if they come to none.
func reckoned(op int, a, b uint64) (uint64, bool) {
	switch op {
	case api.OpAdd:
		return a + b, true
	case api.OpSub:
		return a - b, true
	case api.OpMul:
		return a * b, true
	case api.OpDiv, api.OpMod:
		if b == 0 {
			return 0, false
		}
		if op == api.OpDiv {
			return a / b, true
		}
		return a - a/b*b, true
	case api.OpAnd:
		return a & b, true
	case api.OpOr:
		return a | b, true
	case api.OpXor:
		return a ^ b, true
	case api.OpShl:
		return a << b, true
	case api.OpShr:
		return a >> b, true
	case api.OpLess:
		return oneIf(a < b), true
	}
	return oneIf(a == b), true
}

func oneIf(is bool) uint64 {
	if is {
		return 1
	}
	return 0
}

// one does an instruction that calls nothing; false, if it faults: all is as it was then.
func (x *mind) one(i api.Ins) bool {
	was := x.place
	x.pc += i.Len
	switch i.Op {
	case api.OpPush, api.OpWord:
		x.push(i.Arg)
	case api.OpDup:
		x.push(x.stack[len(x.stack)-1])
	case api.OpDrop:
		x.pop()
	case api.OpSwap, api.OpOver:
		b, a := x.pop(), x.pop()
		if i.Op == api.OpOver {
			x.push(a)
			x.push(b)
		} else {
			x.push(b)
		}
		x.push(a)
	case api.OpNot:
		x.push(oneIf(x.pop() == 0))
	case api.OpLoad, api.OpStore:
		b := x.pop()
		if b > 127 {
			x.place = was
			return false
		}
		if i.Op == api.OpLoad {
			x.push(x.words[b])
		} else {
			x.words[b] = x.pop()
		}
	case api.OpJump:
		x.pc = int(i.Arg)
	case api.OpZero:
		if x.pop() == 0 {
			x.pc = int(i.Arg)
		}
	default:
		b, a := x.pop(), x.pop()
		n, is := reckoned(i.Op, a, b)
		if !is {
			x.place = was
			return false
		}
		x.push(n)
	}
	return true
}

// text is that of so many words from at on; false, if there are not all of them.
func (x *mind) text(at, words uint64) (string, bool) {
	if at > 128 || words > 128 || at+words > 128 {
		return "", false
	}
	var l []byte
	for i := range words {
		l = append(l, byte(x.words[at+i]%256))
	}
	return string(l), true
}

// asks is the call that it is at, and whether nothing is to be done of it for an error.
func (x *mind) asks(n int) (c api.Call, e api.Errno) {
	l := x.stack[len(x.stack)-code.Args(n):]
	is, is2 := true, true
	c.N = n
	switch n {
	case api.SysExec, api.SysUnlink, api.SysMkdir:
		c.Text, is = x.text(l[0], l[1])
	case api.SysOpen:
		c.Text, is = x.text(l[0], l[1])
		c.C = l[2]
	case api.SysLink, api.SysRename:
		c.Text, is = x.text(l[0], l[1])
		c.Text2, is2 = x.text(l[2], l[3])
	case api.SysWrite:
		c.A = l[0]
		c.Text, is = x.text(l[1], l[2])
	case api.SysRead:
		c.A, c.B, c.C = l[0], l[1], l[2]
		_, is = x.text(l[1], l[2])
	case api.SysKill, api.SysSignal:
		c.A, c.B = l[0], l[1]
	case api.SysWait, api.SysPipe:
		c.A = l[0]
		_, is = x.text(l[0], uint64(n)/4) // 1 and 2
	case api.SysExit, api.SysClose, api.SysDup:
		c.A = l[0]
	}
	switch {
	case !is || !is2:
		e = api.EFAULT
	case n == api.SysSignal && c.B != byDefault && c.B != toIgnore && (c.B > 200 || !valid.Entry(x.program, int(c.B))):
		e = api.EINVAL
	}
	return c, e
}

// mayLack says whether a call may be refused for want of room, and with which error.
func mayLack(n int) (api.Errno, bool) {
	switch n {
	case api.SysFork, api.SysExec:
		return api.ENOMEM, true
	case api.SysOpen, api.SysWrite, api.SysMkdir, api.SysLink, api.SysRename:
		return api.ENOSPC, true
	}
	return 0, false
}

// step is the chapter's Step; refuses says of the call at hand whether it is refused for want of room.
func (m *model) step(pid, fuel int, refuses func(api.Call) bool) (api.Event, bool) {
	x := m.minds[pid]
	if x == nil {
		return api.Event{}, false
	}
	for range min(max(fuel, 0), 200) {
		i, e := code.One(x.program, x.pc)
		if e != api.OK {
			panic("a program that may be run goes astray")
		}
		if i.Op == api.OpSys {
			return m.atCall(pid, int(i.Arg), refuses)
		}
		if !x.one(i) {
			return m.dies(pid, 11), true
		}
	}
	return api.Event{}, false
}

func (m *model) dies(pid, sig int) api.Event {
	m.core.Kill(m.disk, pid, 128+sig)
	delete(m.minds, pid)
	return dies(pid, sig)
}

func (m *model) atCall(pid, n int, refuses func(api.Call) bool) (api.Event, bool) {
	x := m.minds[pid]
	if sig, handler, is := m.core.Signal(pid, api.Vm{}); is {
		if handler == byDefault {
			return m.dies(pid, sig), true
		}
		was := x.place
		x.kept, x.place = &was, place{pc: int(handler)}
		return comes(pid, sig), true
	}
	c, e := x.asks(n)
	var r api.Ret
	if err, may := mayLack(n); may && refuses(c) {
		r.Err = err
	} else if r.Err = e; e == api.OK {
		var shown string
		var taken int
		var waits bool
		r, shown, taken, waits = m.core.Do(m.disk, pid, c, m.in)
		if waits {
			return api.Event{}, false
		}
		m.out, m.in = m.out+shown, m.in[taken:]
	}
	m.behind(pid, c, r)
	return called(pid, c, r), true
}

// behind lets the process be behind its call.
func (m *model) behind(pid int, c api.Call, r api.Ret) {
	x := m.minds[pid]
	if r.Err != api.OK {
		x.goOn(c.N, -uint64(r.Err))
		return
	}
	switch c.N {
	case api.SysExit:
		delete(m.minds, pid)
		return
	case api.SysExec:
		m.minds[pid] = &mind{program: r.Data, words: map[uint64]uint64{}}
		return
	case api.SysSigret:
		x.place, x.kept = *x.kept, nil
		return
	case api.SysFork:
		y := *x
		y.words = map[uint64]uint64{}
		for at, word := range x.words {
			y.words[at] = word
		}
		y.goOn(c.N, 0)
		m.minds[r.N] = &y
	case api.SysRead:
		for i := range len(r.Data) {
			x.words[c.B+uint64(i)] = uint64(r.Data[i])
		}
	case api.SysWait:
		x.words[c.A] = uint64(r.Two[0])
	case api.SysPipe:
		x.words[c.A], x.words[c.A+1] = uint64(r.Two[0]), uint64(r.Two[1])
	}
	x.goOn(c.N, uint64(r.N))
}

func (x *mind) goOn(n int, answer uint64) {
	x.stack = x.stack[:len(x.stack)-code.Args(n)]
	x.push(answer)
	x.pc += 2
}

func (m *model) live() (l []int) {
	for pid := range m.minds {
		l = append(l, pid)
	}
	slices.Sort(l)
	return l
}

func never(api.Call) bool { return false }

// follow is the chapter's Follow.
func (m *model) follow(l []api.Event) int {
	for n, want := range l {
		refused := false
		err, may := mayLack(want.Call.N)
		refuses := func(c api.Call) bool {
			refused = may && want.Kind == api.EvCall && want.Ret.Err == err && c == want.Call
			return refused
		}
		got, told := api.Event{}, false
		for i := 0; i < 500 && !told; i++ {
			got, told = m.step(want.Pid, 200, refuses)
		}
		if !told || got != want && !refused {
			return n
		}
	}
	return len(l)
}

// dice throws the same numbers in every run.
type dice uint64

func (d *dice) below(n int) int {
	*d = *d*6364136223846793005 + 1442695040888963407
	return int(uint64(*d>>33) % uint64(n))
}

func pickOf[T any](d *dice, l ...T) T { return l[d.below(len(l))] }

func (d *dice) fd() string {
	return pickOf(d, "0", "1", "3", "3", "4", "4", "5", "60 load", "61 load", "6")
}

func (d *dice) at() string {
	return pickOf(d, "60", "60", "60", "62", "50", "0", "127", "126", "128", "18446744073709551615")
}

func (d *dice) count() string {
	return pickOf(d, "0", "1", "2", "3", "5", "9", "30", "68", "128", "129", "62 load")
}

// text is that of a path mostly: what was typed lies from 0 on.
func (d *dice) text() string {
	if d.below(12) == 0 {
		return pickOf(d, "128 0", "127 2", "129 0", "0 18446744073709551615", "128 1", "40 33")
	}
	return fmt.Sprint(2*d.below(18), " ", pickOf(d, 2, 2, 2, 2, 4, 0, 1, 3))
}

func (d *dice) status() string { return pickOf(d, "0", "1", "255", "256", "getpid", "60 load") }

func (d *dice) label(n int) string { return fmt.Sprint("s", d.below(n)) }

// call is one with its numbers, drawn; n is how many labels there are.
func (d *dice) call(n int) string {
	switch d.below(34) {
	case 0:
		return d.status() + " exit"
	case 1, 2:
		return "fork"
	case 3:
		return d.text() + " exec"
	case 4, 5:
		return d.at() + " wait"
	case 6, 7, 8:
		return d.text() + " " + fmt.Sprint(d.below(9)) + " open"
	case 9, 10, 11:
		return d.fd() + " close"
	case 12, 13, 14:
		return d.fd() + " " + pickOf(d, d.at(), "40") + " " + d.count() + " read"
	case 15, 16, 17:
		return d.fd() + " " + d.text() + " write"
	case 18, 19:
		return pickOf(d, "60", "60", d.at()) + " pipe"
	case 20:
		return d.fd() + " dupfd"
	case 21:
		return d.text() + " unlink"
	case 22:
		return d.text() + " mkdir"
	case 23, 24:
		return d.text() + " " + d.text() + pickOf(d, " link", " link", " rename")
	case 25, 26, 27:
		return fmt.Sprint(1+d.below(4), " ", pickOf(d, 10, 10, 10, 10, 10, 2, 3, 9, 0, 16), " kill")
	case 28, 29:
		return fmt.Sprint(pickOf(d, 10, 10, 2, 3, 13, 9), " ", pickOf(d, "@"+d.label(n), "@"+d.label(n), "18446744073709551614", "18446744073709551615", "7"), " signal")
	case 30, 31, 32:
		return "sigret"
	}
	return pickOf(d, "yield", "getpid")
}

// statement is a row of words that leaves the stack as it was.
func (d *dice) statement(n int) string {
	switch d.below(40) {
	case 0, 1:
		return "getpid " + pickOf(d, "1", "2", "3") + " equal zero:" + d.label(n)
	case 2:
		return "60 load zero:" + d.label(n)
	case 3:
		return pickOf(d, "62 load 1 add 62 store", "62 load 60 load div drop", "60 load load drop", "5 62 load store", "jump:"+d.label(n))
	}
	return d.call(n) + pickOf(d, " drop", " drop", " drop", " drop", " 60 store", " 62 store", " zero:"+d.label(n))
}

// program is drawn so that it may be run: a loop, with a handler in it mostly, that reads what was typed again and again.
func (d *dice) program(t *testing.T) string {
	t.Helper()
	for {
		n := 6 + d.below(8)
		words := "s0: 0 0 36 read drop " + pickOf(d, "", "10 @"+d.label(n)+" signal drop")
		for i := range n {
			words += fmt.Sprintf(" s%d: %s ", i+1, d.statement(n))
		}
		p := spelt(t, words+" jump:"+pickOf(d, "s0", "s0", d.label(n)))
		if valid.Check(p.s) == api.OK {
			return p.s
		}
	}
}

// cfg is a drawn tree of drawn programs, and what is typed: paths, one behind the other.
func (d *dice) cfg(t *testing.T) api.Config {
	t.Helper()
	cfg := api.Config{Tree: nodes(file("/init", d.program(t)), folder("/d"), file("/p", d.program(t)), file("/f", "hello"), file("/d/p", d.program(t)))}
	for range d.below(3000) {
		cfg.Input += pickOf(d, "/f", "/f", "/p", "/p", "/d", "/x", "/y")
	}
	return cfg
}

// pick is mostly one of a process that lives.
func (d *dice) pick(m *model) api.Pick {
	x := api.Pick{Fuel: pickOf(d, 200, 200, 200, 1, 5, 17, 0, -1, 201, 1000)}
	if l := m.live(); len(l) > 0 && d.below(20) > 0 {
		x.Env = pickOf(d, l...)
	} else {
		x.Env = pickOf(d, append(noPids(), 1, 2, 3, 4, 5, 6, 7, 8)...)
	}
	return x
}

func wantLike(t *testing.T, seed int, u *uspec.Spec, m *model) {
	t.Helper()
	if !slices.Equal(u.Live(), m.live()) || !slices.Equal(u.Live(), m.core.Pids()) || u.Out() != m.out || !slices.Equal(u.Tree(), fscore.Tree(m.disk)) {
		t.Fatalf("seed %d: %v, want %v %q", seed, short(looked(u)), m.live(), short(m.out))
	}
}

// 23.2, 23.3: any picks of drawn programs, against the model.
func TestAgainstTheModel(t *testing.T) {
	counts := map[string]int{}
	for seed := range 600 {
		d := dice(seed)
		cfg := d.cfg(t)
		u, m := made(t, cfg), newModel(t, cfg)
		for i := 0; i < 300 && (len(m.minds) > 0 || i%10 != 0); i++ { // and some Steps where nobody lives
			x := d.pick(m)
			want, wantTold := m.step(x.Env, x.Fuel, never)
			if got, told := u.Step(x.Env, x.Fuel); got != want || told != wantTold {
				t.Fatalf("seed %d, pick %d: Step(%v) answers %v, %v, want %v, %v", seed, i, x, short(got), told, short(want), wantTold)
			}
			counts[kindOf(want)]++
			if i%37 == 0 {
				wantLike(t, seed, u, m)
			}
		}
		wantLike(t, seed, u, m)
	}
	for _, what := range everyKind() {
		if counts[what] < 5 {
			t.Errorf("%s only %d times", what, counts[what])
		}
	}
}

// kindOf tells what became of a Step.
func kindOf(x api.Event) string {
	return fmt.Sprint(x.Kind, " ", x.Call.N, " ", int(x.Ret.Err))
}

// everyKind is all that Steps of drawn programs should come to.
func everyKind() []string {
	l := []string{"0 0 0", "2 0 0", "3 0 0"}
	for n, errs := range map[int][]api.Errno{
		api.SysExit: {}, api.SysFork: {api.EAGAIN}, api.SysExec: {api.EFAULT, api.ENOENT, api.EISDIR, api.ENOEXEC}, api.SysWait: {api.EFAULT, api.ECHILD},
		api.SysOpen: {api.EFAULT, api.EINVAL, api.ENOENT, api.EISDIR, api.EMFILE}, api.SysClose: {api.EBADF}, api.SysRead: {api.EFAULT, api.EBADF},
		api.SysWrite: {api.EFAULT, api.EBADF}, api.SysPipe: {api.EFAULT, api.EMFILE}, api.SysDup: {api.EBADF, api.EMFILE}, api.SysUnlink: {api.EFAULT, api.ENOENT, api.EISDIR},
		api.SysMkdir: {api.EFAULT, api.EEXIST}, api.SysLink: {api.EFAULT, api.EEXIST}, api.SysRename: {api.EFAULT, api.ENOENT}, api.SysKill: {api.ESRCH, api.EINVAL},
		api.SysSignal: {api.EINVAL}, api.SysGetpid: {}, api.SysSigret: {api.EINVAL}, api.SysYield: {},
	} {
		for _, e := range append(errs, api.OK) {
			l = append(l, fmt.Sprint(api.EvCall, " ", n, " ", int(e)))
		}
	}
	return l
}
