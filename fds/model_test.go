package fds_test

import (
	"math"
	"slices"
	"testing"

	"janus/api"
	"janus/fds"
)

// model is the chapter once more: what each descriptor names, and nothing else; two that name the same file have the same pointer.
type model struct {
	names [9][6]*api.File // process 0 is none
}

// refs is how many descriptors name the file.
func (m *model) refs(x *api.File) int {
	n := 0
	for _, t := range m.names {
		for _, y := range t {
			if y == x {
				n++
			}
		}
	}
	return n
}

// open is the open files in the order in which they are named first.
func (m *model) open() []*api.File {
	var l []*api.File
	for _, t := range m.names {
		for _, x := range t {
			if x != nil && !slices.Contains(l, x) {
				l = append(l, x)
			}
		}
	}
	return l
}

func (m *model) at(pid, fd int) *api.File {
	if !isPid(pid) || fd < 0 || fd > 5 {
		return nil
	}
	return m.names[pid][fd]
}

func (m *model) tell(x *api.File) api.File { return refs(*x, m.refs(x)) }

// lay lets the lowest descriptor that is free name the file.
func (m *model) lay(pid int, x *api.File) answer {
	fd := slices.Index(m.names[pid][:], nil)
	if fd < 0 {
		return answer{e: api.EMFILE}
	}
	m.names[pid][fd] = x
	return answer{n: fd}
}

func (m *model) close(pid, fd int) answer {
	x := m.at(pid, fd)
	m.names[pid][fd] = nil
	return answer{x: m.tell(x)}
}

func (m *model) encode() []uint64 {
	files := m.open()
	w := []uint64{uint64(len(files))}
	for _, x := range files {
		w = append(w, uint64(x.Kind), uint64(x.Id), uint64(x.Off), map[bool]uint64{true: 1}[x.Append])
	}
	for _, t := range m.names[1:] {
		for _, x := range t {
			w = append(w, uint64(slices.Index(files, x)+1))
		}
	}
	return w
}

func (m *model) ids(kind int) []int {
	var l []int
	for _, x := range m.open() {
		if x.Kind == kind && !slices.Contains(l, x.Id) {
			l = append(l, x.Id)
		}
	}
	slices.Sort(l)
	return l
}

// do answers what the call should answer.
func (m *model) do(c call) (a answer) {
	x := m.at(c.pid, c.fd)
	switch c.name {
	case "Open":
		switch {
		case !isPid(c.pid):
			a.e = api.EBADF
		case len(m.open()) == 32:
			a.e = api.EMFILE
		default:
			x = &api.File{Kind: c.x.Kind, Id: c.x.Id, Off: c.x.Off, Append: c.x.Append}
			a = m.lay(c.pid, x)
		}
	case "Dup":
		if a.e = api.EBADF; x != nil {
			a = m.lay(c.pid, x)
		}
	case "Close":
		if a.e = api.EBADF; x != nil {
			a = m.close(c.pid, c.fd)
		}
	case "Get":
		if a.e = api.EBADF; x != nil {
			a = answer{x: m.tell(x)}
		}
	case "Seek":
		switch {
		case x == nil:
			a.e = api.EBADF
		case c.n < 0:
			a.e = api.EINVAL
		default:
			x.Off = c.n
		}
	case "Fork":
		m.fork(c.pid, c.n)
	case "Gone":
		for fd := range 6 {
			if m.at(c.pid, fd) != nil {
				a.files = append(a.files, m.close(c.pid, fd).x)
			}
		}
	case "Left":
		for fd := range 6 {
			if isPid(c.pid) && m.at(c.pid, fd) == nil {
				a.n++
			}
		}
	case "Ids":
		a.list = m.ids(c.n)
	case "Encode":
		a.words = m.encode()
	}
	return a
}

func (m *model) fork(pid, child int) {
	if !isPid(pid) || !isPid(child) || pid == child {
		return
	}
	for fd := range 6 {
		if m.names[child][fd] == nil {
			m.names[child][fd] = m.names[pid][fd]
		}
	}
}

// dice throws the same numbers in every run.
type dice uint64

func (d *dice) below(n int) int {
	*d = *d*6364136223846793005 + 1442695040888963407
	return int(uint64(*d>>33) % uint64(n))
}

func pickOf[T any](d *dice, l []T) T { return l[d.below(len(l))] }

// pid is mostly one of few, so that what one call did meets the next.
func (d *dice) pid() int {
	switch d.below(16) {
	case 0:
		return pickOf(d, noPids())
	case 1, 2, 3, 4, 5, 6:
		return 1 + d.below(lastPid)
	}
	return pickOf(d, []int{1, 2, lastPid})
}

func (d *dice) fd() int {
	if d.below(20) == 0 {
		return pickOf(d, noFds())
	}
	return d.below(api.MaxFd)
}

func (d *dice) off() int {
	if d.below(5) == 0 {
		return pickOf(d, []int{-1, math.MinInt, 1<<20 - 1, 1 << 20})
	}
	return d.below(300)
}

// file is one that words can be read as, with any Refs.
func (d *dice) file() api.File {
	return api.File{Kind: 1 + d.below(4), Id: d.below(5), Off: pickOf(d, []int{0, 0, 3, 192, 1 << 20}), Append: d.below(3) == 0, Refs: d.below(9) - 3}
}

// call is drawn so that opens come greed times as often as what closes.
func (d *dice) call(greed int) call {
	if d.below(3+greed) < 2 {
		return pickOf(d, []call{closes(d.pid(), d.fd()), closes(d.pid(), d.fd()), closes(d.pid(), d.fd()), gone(d.pid())})
	}
	switch d.below(16) {
	case 0, 1:
		return dup(d.pid(), d.fd())
	case 2:
		return fork(d.pid(), d.pid())
	case 3, 4:
		return seek(d.pid(), d.fd(), d.off())
	case 5:
		return get(d.pid(), d.fd())
	case 6:
		return left(d.pid())
	case 7:
		return ids(d.below(7) - 1)
	case 8:
		return gone(pickOf(d, noPids()))
	}
	return open(d.pid(), d.file())
}

func wantLike(t *testing.T, seed int, f *fds.Fds, m *model, calls ...call) {
	t.Helper()
	for _, c := range calls {
		if got, want := c.on(f), m.do(c); !got.same(want) {
			t.Fatalf("seed %d: %v answers %v, want %v", seed, c, got, want)
		}
	}
}

func TestAgainstTheModel(t *testing.T) {
	full := 0
	for seed := range 150 {
		d := dice(seed)
		f, m := fresh(t), &model{}
		for i := range 400 {
			wantLike(t, seed, f, m, d.call(1+seed%8), encode())
			if i%10 == 0 {
				wantLike(t, seed, f, m, looksAt()...)
			}
			if len(m.open()) == 32 {
				full++
			}
			if i%50 == 49 { // what was read from words goes on as what was not
				f = wantBack(t, f)
			}
		}
		wantLike(t, seed, f, m, usesUp()...)
	}
	if full < 1000 {
		t.Errorf("all files were open only %d times", full)
	}
}

// 18.3: what Get tells as Refs is how many descriptors name the file, which a Seek to a place of its own finds.
func TestRefsIsHowManyNameTheFile(t *testing.T) {
	for seed := range 40 {
		d := dice(seed)
		f := fresh(t)
		for range 60 {
			d.call(5).on(f)
			for pid := 1; pid <= lastPid; pid++ {
				for fd := range api.MaxFd {
					wantRefs(t, f, pid, fd)
				}
			}
		}
	}
}

func wantRefs(t *testing.T, f *fds.Fds, pid, fd int) {
	t.Helper()
	x, e := f.Get(pid, fd)
	if e != api.OK {
		return
	}
	f.Seek(pid, fd, 1<<40)
	n := 0
	for p := 1; p <= lastPid; p++ {
		for d := range api.MaxFd {
			if y, _ := f.Get(p, d); y.Off == 1<<40 {
				n++
			}
		}
	}
	f.Seek(pid, fd, max(x.Off, 0))
	if x.Refs != n {
		t.Fatalf("Get(%d, %d) = %v, but %d descriptors name it", pid, fd, x, n)
	}
}

// few is calls on two processes that change something, few enough for all rows of them.
func few(at int) []call {
	return []call{
		open(1, inode(at)), open(2, inode(at)),
		dup(1, 0), dup(2, 0), dup(2, 1),
		closes(1, 0), closes(1, 1), closes(2, 0),
		seek(1, 0, 10+at), seek(2, 1, 10+at),
		fork(1, 2), fork(2, 1), gone(1), gone(2),
	}
}

func TestAllShortRows(t *testing.T) {
	const calls = 4
	n := len(few(0))
	for row := range n * n * n * n {
		f, m, left := fresh(t), &model{}, row
		for at := range calls {
			wantLike(t, row, f, m, few(at)[left%n], encode())
			left /= n
		}
		wantLike(t, row, f, m, get(1, 0), get(1, 1), get(2, 0), get(2, 1), get(2, 2), ids(api.FileInode), gone(1), gone(2), encode())
	}
}

// The same calls answer the same, whatever other things were done to others.
func TestSameCallsAnswerTheSame(t *testing.T) {
	for seed := range 20 {
		d := dice(seed)
		f, g, other := fresh(t), fresh(t), fresh(t)
		for range 300 {
			c := d.call(4)
			d.call(4).on(other)
			if got, want := c.on(f), c.on(g); !got.same(want) {
				t.Fatalf("seed %d: %v answers %v and %v", seed, c, got, want)
			}
		}
	}
}
