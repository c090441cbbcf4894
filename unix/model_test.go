package unix_test

import (
	"fmt"
	"math"
	"slices"
	"strings"
	"testing"

	"janus/api"
	"janus/valid"
)

// The states of a process.
const (
	isFree = iota
	isLiving
	isZombie
)

// opened is an open file of the model: who names it has its address.
type opened struct {
	kind, id, off int
	appends       bool
}

// person is a process of the model.
type person struct {
	state, parent, status int
	fds                   [6]*opened
	handlers              map[int]uint64 // those that are not there are default
	pending               map[int]bool
	kept                  *api.Vm
}

// model is the chapter once more, on maps and addresses; place 0 is of no process.
type model struct {
	procs [9]person
	pipes map[int]string
	disk  *plain
	in    string // what the console has left
}

func newModel(count int, tree []api.Node) *model {
	m := &model{pipes: map[int]string{}, disk: newPlain(count, tree), in: typed}
	for pid := range m.procs {
		m.forget(pid)
	}
	return m
}

// forget lets a process have no signals.
func (m *model) forget(pid int) {
	p := &m.procs[pid]
	p.handlers, p.pending, p.kept = map[int]uint64{}, map[int]bool{}, nil
}

func (m *model) lives(pid int) bool { return pid >= 1 && pid <= 8 && m.procs[pid].state == isLiving }

func (m *model) pids() (l []int) {
	for pid := range m.procs {
		if m.lives(pid) {
			l = append(l, pid)
		}
	}
	return l
}

// files is all open files, in the order of who names them first.
func (m *model) files() (l []*opened) {
	for _, p := range m.procs {
		for _, f := range p.fds {
			if f != nil && !slices.Contains(l, f) {
				l = append(l, f)
			}
		}
	}
	return l
}

func (m *model) ids(kinds ...int) (l []int) {
	for _, f := range m.files() {
		if slices.Contains(kinds, f.kind) {
			l = append(l, f.id)
		}
	}
	return l
}

func (m *model) free(pid int) (l []int) {
	for fd, f := range m.procs[pid].fds {
		if f == nil {
			l = append(l, fd)
		}
	}
	return l
}

func (m *model) open(pid int, f *opened) int {
	fd := m.free(pid)[0]
	m.procs[pid].fds[fd] = f
	return fd
}

func (m *model) close(pid, fd int) {
	f := m.procs[pid].fds[fd]
	m.procs[pid].fds[fd] = nil
	switch {
	case f == nil:
	case f.kind == api.FileInode && !slices.Contains(m.ids(api.FileInode), f.id):
		m.disk.close(f.id, nil)
	case f.kind >= api.FileReader && !slices.Contains(m.ids(api.FileReader, api.FileWriter), f.id):
		delete(m.pipes, f.id)
	}
}

func (m *model) begin(pid int) api.Errno {
	for _, p := range m.procs {
		if p.state != isFree {
			return api.EAGAIN
		}
	}
	if pid != 1 {
		return api.EAGAIN
	}
	m.procs[1].state = isLiving
	for range 3 {
		m.open(1, &opened{kind: api.FileConsole})
	}
	return api.OK
}

func (m *model) kill(pid, status int) {
	if !m.lives(pid) {
		return
	}
	for fd := range 6 {
		m.close(pid, fd)
	}
	m.forget(pid)
	p := &m.procs[pid]
	p.state, p.status = isZombie, status
	for i := range m.procs {
		q := &m.procs[i]
		if q.state != isFree && q.parent == pid {
			q.parent = 0
		}
		if q.state == isZombie && q.parent == 0 {
			q.state, q.status = isFree, 0
		}
	}
}

func (m *model) handler(pid, sig int) uint64 {
	if h, is := m.procs[pid].handlers[sig]; is {
		return h
	}
	return byDefault
}

func (m *model) signal(pid int, v api.Vm) answer {
	if pid < 1 || pid > 8 {
		return answer{}
	}
	p := &m.procs[pid]
	if p.pending[9] {
		delete(p.pending, 9)
		return answer{n: 9, h: byDefault, is: true}
	}
	for sig := 1; sig <= 15 && p.kept == nil; sig++ {
		was, h := p.pending[sig], m.handler(pid, sig)
		delete(p.pending, sig)
		if !was || h == toIgnore {
			continue
		}
		if h != byDefault {
			p.kept = &api.Vm{Pc: v.Pc, Stack: slices.Clone(v.Stack)}
		}
		return answer{n: sig, h: h, is: true}
	}
	return answer{}
}

func rets(r api.Ret) answer    { return answer{ret: r} }
func fails(e api.Errno) answer { return rets(api.Ret{Err: e}) }
func gives(n int) answer       { return rets(api.Ret{N: n}) }
func either(n int, e api.Errno) answer { // N, or Err alone
	if e != api.OK {
		return fails(e)
	}
	return gives(n)
}

func (m *model) fork(pid int) answer {
	child := slices.IndexFunc(m.procs[1:], func(p person) bool { return p.state == isFree }) + 1
	if child == 0 {
		return fails(api.EAGAIN)
	}
	p := m.procs[pid]
	q := person{state: isLiving, parent: pid, fds: p.fds, handlers: map[int]uint64{}, pending: map[int]bool{}, kept: p.kept}
	for sig, h := range p.handlers {
		q.handlers[sig] = h
	}
	m.procs[child] = q
	return gives(child)
}

func (m *model) wait(pid int) answer {
	a := fails(api.ECHILD)
	for child := 1; child <= 8; child++ {
		p := &m.procs[child]
		if p.state == isFree || p.parent != pid {
			continue
		}
		if p.state == isZombie {
			a = rets(api.Ret{N: child, Two: [2]int{p.status}})
			p.state, p.parent, p.status = isFree, 0, 0
			return a
		}
		a = answer{waits: true}
	}
	return a
}

func (m *model) exec(pid int, path string) answer {
	i, e := m.disk.file(path)
	if e != api.OK {
		return fails(e)
	}
	text := m.disk.things[i].text
	if valid.Check(text) != api.OK {
		return fails(api.ENOEXEC)
	}
	p := &m.procs[pid]
	for sig, h := range p.handlers {
		if h != toIgnore {
			delete(p.handlers, sig)
		}
	}
	p.kept = nil
	return rets(api.Ret{Data: text})
}

func (m *model) sysOpen(pid int, path string, flags uint64) answer {
	if flags > 7 {
		return fails(api.EINVAL)
	}
	canOpen := len(m.free(pid)) > 0 && len(m.files()) < 32
	i, e := m.disk.walk(path)
	switch {
	case e == api.ENOENT && flags&1 != 0:
		if _, _, e := m.disk.parent(path); e != api.OK {
			return fails(e)
		}
		if !canOpen {
			return fails(api.EMFILE)
		}
		if i, e = m.disk.make(path, false); e != api.OK {
			return fails(e)
		}
	case e != api.OK:
		return fails(e)
	case m.disk.things[i].isDir:
		return fails(api.EISDIR)
	case !canOpen:
		return fails(api.EMFILE)
	}
	if flags&2 != 0 {
		m.disk.things[i].text = ""
	}
	return gives(m.open(pid, &opened{kind: api.FileInode, id: i, appends: flags&4 != 0}))
}

func (m *model) pipe(pid int) answer {
	if len(m.free(pid)) < 2 || len(m.files()) > 30 {
		return fails(api.EMFILE)
	}
	for id := range 16 {
		if _, is := m.pipes[id]; !is {
			m.pipes[id] = ""
			r := m.open(pid, &opened{kind: api.FileReader, id: id})
			w := m.open(pid, &opened{kind: api.FileWriter, id: id})
			return rets(api.Ret{Two: [2]int{r, w}})
		}
	}
	return fails(api.EAGAIN)
}

func (m *model) read(f *opened, n uint64) answer {
	if n > 128 {
		return fails(api.EINVAL)
	}
	if f.kind == api.FileWriter {
		return fails(api.EBADF)
	}
	if n == 0 {
		return gives(0)
	}
	front := func(s string) answer {
		s = s[:min(len(s), int(n))]
		return rets(api.Ret{N: len(s), Data: s})
	}
	switch f.kind {
	case api.FileConsole:
		a := front(m.in)
		a.taken = a.ret.N
		m.in = m.in[a.taken:]
		return a
	case api.FileInode:
		text := m.disk.things[f.id].text
		a := front(text[min(f.off, len(text)):])
		f.off += a.ret.N
		return a
	}
	a := front(m.pipes[f.id])
	if a.ret.N == 0 && slices.Contains(m.ids(api.FileWriter), f.id) {
		return answer{waits: true}
	}
	m.pipes[f.id] = m.pipes[f.id][a.ret.N:]
	return a
}

func (m *model) write(pid int, f *opened, text string) answer {
	if f.kind == api.FileReader {
		return fails(api.EBADF)
	}
	if text == "" {
		return gives(0)
	}
	switch f.kind {
	case api.FileConsole:
		a := gives(len(text))
		a.shown = text
		return a
	case api.FileInode:
		off := f.off
		if f.appends {
			off = len(m.disk.things[f.id].text)
		}
		if e := m.disk.write(f.id, off, text); e != api.OK {
			return fails(e)
		}
		f.off = off + len(text)
		return gives(len(text))
	}
	if !slices.Contains(m.ids(api.FileReader), f.id) {
		m.procs[pid].pending[13] = true
		return fails(api.EPIPE)
	}
	n := min(len(text), 8-len(m.pipes[f.id]))
	if n == 0 {
		return answer{waits: true}
	}
	m.pipes[f.id] += text[:n]
	return gives(n)
}

// onFile is a call on a descriptor.
func (m *model) onFile(pid int, x api.Call) answer {
	if x.A > 5 || m.procs[pid].fds[x.A] == nil {
		return fails(api.EBADF)
	}
	f := m.procs[pid].fds[x.A]
	switch x.N {
	case api.SysClose:
		m.close(pid, int(x.A))
		return gives(0)
	case api.SysDup:
		if len(m.free(pid)) == 0 {
			return fails(api.EMFILE)
		}
		return gives(m.open(pid, f))
	case api.SysRead:
		return m.read(f, x.C)
	}
	return m.write(pid, f, x.Text)
}

func (m *model) send(whom, sig uint64) answer {
	if whom > 8 || !m.lives(int(whom)) {
		return fails(api.ESRCH)
	}
	if sig > 15 {
		return fails(api.EINVAL)
	}
	if sig > 0 {
		m.procs[whom].pending[int(sig)] = true
	}
	return gives(0)
}

func (m *model) do(pid int, x api.Call) answer {
	if !m.lives(pid) {
		return fails(api.ESRCH)
	}
	switch x.N {
	case api.SysExit:
		m.kill(pid, int(x.A%256))
		return gives(0)
	case api.SysFork:
		return m.fork(pid)
	case api.SysExec:
		return m.exec(pid, x.Text)
	case api.SysWait:
		return m.wait(pid)
	case api.SysOpen:
		return m.sysOpen(pid, x.Text, x.C)
	case api.SysClose, api.SysDup, api.SysRead, api.SysWrite:
		return m.onFile(pid, x)
	case api.SysPipe:
		return m.pipe(pid)
	case api.SysUnlink:
		return either(0, m.disk.unlink(x.Text, m.ids(api.FileInode)))
	case api.SysMkdir:
		_, e := m.disk.make(x.Text, true)
		return either(0, e)
	case api.SysLink:
		return either(0, m.disk.link(x.Text, x.Text2))
	case api.SysRename:
		return either(0, m.disk.rename(x.Text, x.Text2, m.ids(api.FileInode)))
	case api.SysKill:
		return m.send(x.A, x.B)
	case api.SysSignal:
		if x.A < 1 || x.A > 15 || x.A == 9 {
			return fails(api.EINVAL)
		}
		m.procs[pid].handlers[int(x.A)] = x.B
		return gives(0)
	case api.SysGetpid:
		return gives(pid)
	case api.SysSigret:
		if m.procs[pid].kept == nil {
			return fails(api.EINVAL)
		}
		m.procs[pid].kept = nil
		return gives(0)
	case api.SysYield:
		return gives(0)
	}
	return fails(api.EINVAL)
}

// answer answers what the call should answer.
func (m *model) answer(c call) (a answer) {
	switch c.name {
	case "Begin":
		a.e = m.begin(c.pid)
	case "Signal":
		a = m.signal(c.pid, c.v)
	case "Do":
		a = m.do(c.pid, c.x)
	case "Kill":
		m.kill(c.pid, c.n)
	case "Live":
		a.is = m.lives(c.pid)
	case "Saved":
		if c.pid >= 1 && c.pid <= 8 && m.procs[c.pid].kept != nil {
			a.v, a.is = *m.procs[c.pid].kept, true
		}
	case "Pids":
		a.pids = m.pids()
	case "Encode":
		a.words = m.encode()
	case "Tree":
		a.nodes = m.disk.tree(0, "")
	}
	return a
}

func oneIf(is bool) uint64 {
	if is {
		return 1
	}
	return 0
}

func (m *model) encode() (w []uint64) {
	for _, part := range [][]uint64{m.fileWords(), m.pipeWords(), m.signalWords(), m.procWords()} {
		w = append(w, uint64(len(part)))
		w = append(w, part...)
	}
	return w
}

func (m *model) fileWords() []uint64 {
	l := m.files()
	w := []uint64{uint64(len(l))}
	for _, f := range l {
		w = append(w, uint64(f.kind), uint64(f.id), uint64(f.off), oneIf(f.appends))
	}
	for pid := 1; pid <= 8; pid++ {
		for _, f := range m.procs[pid].fds {
			w = append(w, uint64(slices.Index(l, f)+1))
		}
	}
	return w
}

func (m *model) pipeWords() (w []uint64) {
	for id := range 16 {
		bytes, is := m.pipes[id]
		if w = append(w, oneIf(is)); is {
			w = append(w, uint64(len(bytes)))
		}
		for i := range len(bytes) {
			w = append(w, uint64(bytes[i]))
		}
	}
	return w
}

func (m *model) signalWords() (w []uint64) {
	for pid := 1; pid <= 8; pid++ {
		p, pending := m.procs[pid], uint64(0)
		for sig := 1; sig <= 15; sig++ {
			w = append(w, m.handler(pid, sig))
			pending += oneIf(p.pending[sig]) << sig
		}
		w = append(w, pending, oneIf(p.kept != nil))
		if p.kept != nil {
			w = append(w, uint64(p.kept.Pc), uint64(len(p.kept.Stack)))
			w = append(w, p.kept.Stack...)
		}
	}
	return w
}

func (m *model) procWords() (w []uint64) {
	for pid := 1; pid <= 8; pid++ {
		p := m.procs[pid]
		w = append(w, uint64(p.state), uint64(p.parent), uint64(p.status))
	}
	return w
}

// dice throws the same numbers in every run.
type dice uint64

func (d *dice) below(n int) int {
	*d = *d*6364136223846793005 + 1442695040888963407
	return int(uint64(*d>>33) % uint64(n))
}

func pickOf[T any](d *dice, l []T) T { return l[d.below(len(l))] }

// pid is mostly one that lives.
func (d *dice) pid(m *model) int {
	l := m.pids()
	if d.below(25) == 0 || len(l) == 0 {
		return pickOf(d, append(noPids(), 1, 2, 3, 4, 5, 6, 7, 8))
	}
	return pickOf(d, l)
}

// fd is mostly one that is open; free says whether one that is not is as good.
func (d *dice) fd(m *model, pid int) uint64 {
	if d.below(15) == 0 || !m.lives(pid) {
		return pickOf(d, append(noFds(), 0, 1, 2, 3, 4, 5))
	}
	for range 4 {
		if fd := d.below(6); m.procs[pid].fds[fd] != nil {
			return uint64(fd)
		}
	}
	return uint64(d.below(6))
}

func (d *dice) path() string {
	if d.below(25) == 0 {
		return pickOf(d, []string{"", "/", "//", "/123456789", "/a\x00", strings.Repeat("/a", 17), "/\xff", "/d/", "/a/b/c"})
	}
	path := "/" + pickOf(d, []string{"a", "b", "c", "f", "d", "prog"})
	if d.below(3) == 0 {
		path = "/" + pickOf(d, []string{"d", "d", "a", "f"}) + "/" + pickOf(d, []string{"a", "b", "g", "e"})
	}
	return path
}

func (d *dice) text() string {
	switch d.below(12) {
	case 0:
		return ""
	case 1:
		return pickOf(d, []string{program, dead, "\x00\xff\x03\x15\x00\x00"})
	case 2:
		return longText[:d.below(193)]
	case 3:
		return longText + longText[:d.below(2)]
	}
	return longText[d.below(80):][:1+d.below(12)]
}

func (d *dice) number() uint64 {
	if d.below(8) == 0 {
		return pickOf(d, append(farWords(), 0, 9, 129, 200))
	}
	return uint64(d.below(17))
}

func (d *dice) length() uint64 {
	return pickOf(d, []uint64{0, 1, 2, 3, 5, 8, 9, 30, 64, 127, 128, 129, d.number()})
}

func (d *dice) handler() uint64 {
	return pickOf(d, []uint64{byDefault, toIgnore, 0, 3, 40, 1 << 40, 1<<64 - 3})
}

func (d *dice) vm() api.Vm {
	stack := make([]uint64, pickOf(d, []int{0, 0, 1, 2, 5, 32}))
	for i := range stack {
		stack[i] = uint64(d.below(1<<30)) << d.below(35)
	}
	return at(d.below(1<<20+1), stack...)
}

// call is drawn so that the more live, the greedier.
func (d *dice) call(m *model, greed int) call {
	pid := d.pid(m)
	switch d.below(40 + greed) {
	case 0:
		return pickOf(d, []call{begin(1), begin(pid), live(pid), saved(pid), pids(), getpid(pid), yield(pid)})
	case 1:
		return pickOf(d, []call{exit(pid, d.number()), killed(pid, d.below(500)-250), exit(pid, 300)})
	case 2, 3:
		return wait(pid)
	case 4:
		return exec(pid, pickOf(d, []string{"/prog", "/a", d.path()}))
	case 5, 6, 7, 8:
		return open(pid, d.path(), uint64(d.below(9)))
	case 9, 10, 11:
		return closes(pid, d.fd(m, pid))
	case 12, 13:
		return dup(pid, d.fd(m, pid))
	case 14, 15, 16:
		return pipe(pid)
	case 17, 18, 19, 20, 21, 22:
		return read(pid, d.fd(m, pid), d.length())
	case 23, 24, 25, 26, 27, 28:
		return write(pid, d.fd(m, pid), d.text())
	case 29, 30:
		return pickOf(d, []call{unlink(pid, d.path()), unlink(pid, d.path()), mkdir(pid, d.path())})
	case 31:
		return link(pid, d.path(), d.path())
	case 32:
		return rename(pid, d.path(), d.path())
	case 33, 34:
		return kill(pid, uint64(d.pid(m)), d.number())
	case 35:
		return signal(pid, d.number(), d.handler())
	case 36, 37:
		return next(pid, d.vm())
	case 38:
		return sigret(pid)
	case 39:
		return does(pid, api.Call{N: d.below(26) - 3, A: d.number(), B: d.number(), C: d.number(), Text: d.path(), Text2: d.path()})
	}
	return fork(pid)
}

func wantLike(t *testing.T, seed int, w *world, m *model, calls ...call) answer {
	t.Helper()
	var want answer
	for _, c := range calls {
		want = m.answer(c)
		if got := c.on(w); !got.same(want) {
			t.Fatalf("seed %d: %v answers %s, want %s", seed, c, short(got), short(want))
		}
	}
	return want
}

func TestAgainstTheModel(t *testing.T) {
	counts := map[string]int{}
	for seed := range 150 {
		d := dice(seed)
		count := []int{13, 16, 20, 40, 200}[seed%5]
		var nodes []api.Node
		if count > 30 {
			nodes = house()
		}
		w, m := made(t, count, nodes), newModel(count, nodes)
		wantLike(t, seed, w, m, begin(1))
		for i := range 400 {
			c := d.call(m, 1+seed%7)
			was := w.snap()
			a := wantLike(t, seed, w, m, c)
			wantLike(t, seed, w, m, encode(), tree())
			if (step{c, a}).keeps() && !slices.Equal(w.snap(), was) {
				t.Fatalf("seed %d: %v changes something", seed, c)
			}
			counts[kindOf(c, a)]++
			switch i % 100 {
			case 49: // what was read from words goes on as what was not
				w = copyOf(t, w)
			case 99:
				w.in += longText[:d.below(60)]
				m.in = w.in
				wantSound(t, c, w)
			}
		}
		wantLike(t, seed, w, m, usesUp()...)
	}
	for _, what := range everyAnswer() {
		if counts[what] < 5 {
			t.Errorf("%s only %d times", what, counts[what])
		}
	}
}

// kindOf tells what a call met.
func kindOf(c call, a answer) string {
	switch {
	case c.name != "Do":
		return c.name
	case a.waits:
		return fmt.Sprint(c.x.N, " waits")
	}
	return fmt.Sprint(c.x.N, " ", int(a.ret.Err))
}

// everyAnswer is all that calls may meet.
func everyAnswer() []string {
	l := []string{"Begin", "Signal", "Kill", fmt.Sprint(api.SysWait, " waits"), fmt.Sprint(api.SysRead, " waits"), fmt.Sprint(api.SysWrite, " waits")}
	for n, errs := range map[int][]api.Errno{
		api.SysExit: {}, api.SysFork: {api.EAGAIN}, api.SysExec: {api.ENOENT, api.ENOTDIR, api.EISDIR, api.ENOEXEC}, api.SysWait: {api.ECHILD},
		api.SysOpen:  {api.EINVAL, api.ENOENT, api.ENOTDIR, api.EISDIR, api.EMFILE, api.ENOSPC, api.ENAMETOOLONG},
		api.SysClose: {api.EBADF}, api.SysDup: {api.EBADF, api.EMFILE}, api.SysPipe: {api.EMFILE}, api.SysRead: {api.EBADF, api.EINVAL},
		api.SysWrite: {api.EBADF, api.EFBIG, api.ENOSPC, api.EPIPE}, api.SysUnlink: {api.ENOENT, api.ENOTDIR, api.EISDIR}, api.SysMkdir: {api.EEXIST, api.ENOSPC},
		api.SysLink: {api.EISDIR, api.EEXIST, api.ENOSPC}, api.SysRename: {api.ENOENT, api.EINVAL, api.EEXIST}, api.SysKill: {api.ESRCH, api.EINVAL},
		api.SysSignal: {api.EINVAL}, api.SysSigret: {api.EINVAL}, api.SysGetpid: {}, api.SysYield: {},
	} {
		for _, e := range append(errs, api.OK, api.ESRCH) {
			l = append(l, fmt.Sprint(n, " ", int(e)))
		}
	}
	return slices.DeleteFunc(l, func(s string) bool { // too few of these are drawn by one that does not live
		return strings.HasSuffix(s, fmt.Sprint(" ", int(api.ESRCH))) && !strings.HasPrefix(s, fmt.Sprint(api.SysKill, " "))
	})
}

// few is calls of two processes, few enough for all rows of them.
func few() []call {
	return []call{
		fork(1), exit(1, 1), exit(2, 2), killed(2, 300), wait(1), wait(2), exec(2, "/prog"), open(1, "/f", 0), open(2, "/f", 6), open(2, "/a", 1), closes(1, 3), closes(2, 4),
		pipe(1), read(1, 3, 3), read(2, 3, 3), write(1, 4, "abcde"), write(2, 3, "xyz"), unlink(2, "/f"), rename(1, "/prog", "/f"), kill(2, 1, 10), signal(1, 10, 40), next(1, at(3, 4)), sigret(1),
	}
}

func TestAllShortRows(t *testing.T) {
	l := few()
	n := len(l)
	tree := []api.Node{{Path: "/f", Data: "hello"}, {Path: "/prog", Data: program}}
	for row := range n * n * n {
		w, m, left := made(t, 15, tree), newModel(15, tree), row
		wantLike(t, row, w, m, begin(1), pipe(1), fork(1))
		if row%2 == 0 {
			wantLike(t, row, w, m, closes(1, 3), closes(2, 4))
		}
		for range 3 {
			wantLike(t, row, w, m, l[left%n])
			left /= n
		}
		wantLike(t, row, w, m, encode(), call{name: "Tree"})
	}
}

// The same calls answer the same, whatever other things were done to others.
func TestSameCallsAnswerTheSame(t *testing.T) {
	for seed := range 10 {
		d := dice(seed)
		w, twin, other, m := fresh(t), fresh(t), fresh(t), newModel(60, house())
		for _, x := range []*world{w, twin, other} {
			begin(1).on(x)
		}
		m.answer(begin(1))
		for range 300 {
			c := d.call(m, 4)
			d.call(m, 4).on(other)
			m.answer(c)
			if got, want := c.on(w), c.on(twin); !got.same(want) {
				t.Fatalf("seed %d: %v answers %v and %v", seed, c, got, want)
			}
		}
		if !slices.Equal(w.snap(), twin.snap()) {
			t.Fatalf("seed %d: they differ", seed)
		}
	}
}

// All numbers in all places: none panics, and each ends.
func TestAnyArguments(t *testing.T) {
	w, m := made(t, 60, house()), newModel(60, house())
	wantLike(t, 0, w, m, begin(1), fork(1), pipe(1), open(2, "/f", 0))
	numbers := append(farWords(), 0, 1, 2, 3, 4, 5, 6, 7, 8, 9, 10, 128, 129, math.MaxUint64-1)
	for n := -1; n <= 20; n++ {
		if n == api.SysExit || n == api.SysFork {
			continue
		}
		for _, a := range numbers {
			for i, b := range numbers {
				c := numbers[(i*7+n+1)%len(numbers)]
				wantLike(t, n, w, m, does(1+i%2, api.Call{N: n, A: a, B: b, C: c, Text: "/f"}))
			}
		}
		wantLike(t, n, w, m, encode(), tree())
	}
}
