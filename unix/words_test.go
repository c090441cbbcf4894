package unix_test

import (
	"math"
	"slices"
	"testing"

	"janus/api"
	"janus/fds"
	"janus/pipes"
	"janus/procs"
	"janus/signals"
	"janus/unix"
)

// wordsOf is the words of a core of those parts.
func wordsOf(parts ...[]uint64) []uint64 {
	var l []uint64
	for _, part := range parts {
		l = append(l, uint64(len(part)))
		l = append(l, part...)
	}
	return l
}

// none is the four parts of a core where nothing was done yet.
func none() [4][]uint64 {
	return [4][]uint64{fds.New().Encode(), pipes.New().Encode(), signals.New().Encode(), procs.New().Encode()}
}

// busy has some of all kinds: consoles, files, pipes with bytes in them, handlers, what is pending, zombies.
func busy() []step {
	return joined(begun(2), steps(open(1, "/f", 4).gives(3), open(2, "/d/g", 0).gives(3), read(2, 3, 2).reads("in"), dup(2, 3).gives(4), pipe(3).two(3, 4), write(3, 4, "abc").gives(3), fork(3).gives(4), unlink(1, "/d/g").ok(),
		closes(4, 3).ok(), signal(1, 3, 40).ok(), signal(2, 4, toIgnore).ok(), kill(1, 1, 3).ok(), kill(1, 2, 4).ok(), next(1, at(5, 6, 7)).tells(3, 40),
		kill(2, 1, 12).ok(), fork(1).gives(5), killed(5, -3).ok(), fork(2).gives(6), fork(6).gives(7), exit(6, 66).ok()))
}

// busyParts is the same, by the layers that it stands on.
func busyParts() [4][]uint64 {
	f, p, s, t := fds.New(), pipes.New(), signals.New(), procs.New()
	for range 3 {
		f.Open(1, api.File{Kind: api.FileConsole})
	}
	t.Begin()
	for _, pid := range []int{1, 1, 3, 1, 2, 6} {
		child, _ := t.Fork(pid)
		if child < 4 {
			f.Fork(pid, child)
		}
	}
	f.Open(1, api.File{Kind: api.FileInode, Id: fInode, Append: true})
	f.Open(2, api.File{Kind: api.FileInode, Id: gInode})
	f.Seek(2, 3, 2)
	f.Dup(2, 3)
	p.Make()
	p.Put(0, "abc")
	f.Open(3, api.File{Kind: api.FileReader})
	f.Open(3, api.File{Kind: api.FileWriter})
	f.Fork(3, 4)
	f.Close(4, 3)
	f.Fork(2, 7)
	s.Set(1, 3, 40)
	s.Set(2, 4, toIgnore)
	s.Send(2, 4)
	s.Enter(1, at(5, 6, 7))
	s.Send(1, 12)
	s.Fork(2, 7)
	t.Exit(5, -3)
	t.Exit(6, 66)
	return [4][]uint64{f.Encode(), p.Encode(), s.Encode(), t.Encode()}
}

// wantNone asks for a refusal.
func wantNone(t *testing.T, w []uint64) {
	t.Helper()
	if c, e := unix.Decode(w); c != nil || e != api.ErrArg {
		t.Errorf("Decode of %d words, %v = %v, %d, want nil, ErrArg", len(w), w[:min(9, len(w))], c, e)
	}
}

func TestEncodeOfNone(t *testing.T) {
	parts := none()
	play(t, encode().words(wordsOf(parts[:]...)))
	w := unix.New().Encode()
	if len(w) != 229 || w[0] != 49 || w[50] != 16 || w[67] != 136 || w[204] != 24 {
		t.Errorf("Encode answers %d words, %v", len(w), w)
	}
	play(t, begin(1).ok(), open(1, "/f", 0).gives(3), pipe(1).two(4, 5), kill(1, 1, 3).ok(), exit(1, 0).ok(), encode().words(wordsOf(parts[:]...)))
}

func TestEncodeOfABusyOne(t *testing.T) {
	parts := busyParts()
	play(t, append(busy(), encode().words(wordsOf(parts[:]...)))...)
}

func TestEncodeBehindEachCall(t *testing.T) {
	w := fresh(t)
	for _, x := range busy() {
		before := cut(t, w.c.Encode())
		x.on(w)
		parts := cut(t, wantBack(t, w.c).Encode())
		if n := x.call.x.N; n == api.SysRead && !slices.Equal(parts[2], before[2]) || n == api.SysSignal && !slices.Equal(parts[0], before[0]) {
			t.Errorf("%v changes another part", x.call)
		}
	}
}

// 22.4: behind each call, what was read from words goes on as what was not.
func TestDecodedGoesOn(t *testing.T) {
	l := busy()
	for n := range len(l) + 1 {
		w := fresh(t)
		for _, x := range l[:n] {
			x.on(w)
		}
		other := copyOf(t, w)
		for _, x := range l[n:] {
			if got, want := x.on(other), x.on(w); !got.same(want) {
				t.Fatalf("behind %d calls, %v answers %v, want %v", n, x.call, got, want)
			}
		}
		wantSame(t, encode(), other, w)
	}
}

func TestDecodeOfOtherThanItsLength(t *testing.T) {
	wantNone(t, nil)
	wantNone(t, []uint64{})
	for n := range 300 {
		wantNone(t, make([]uint64, n))
		wantNone(t, slices.Repeat([]uint64{math.MaxUint64}, n))
	}
	for _, c := range []*unix.Core{unix.New(), play(t, begin(1).ok()).c, play(t, busy()...).c} {
		w := c.Encode()
		for n := range len(w) {
			wantNone(t, w[:n]) // what lies behind its end is none of a list's
			wantNone(t, w[n+1:])
		}
		for _, more := range []uint64{0, 1, math.MaxUint64} {
			wantNone(t, append(slices.Clone(w), more))
			wantNone(t, append([]uint64{more}, w...))
		}
		wantNone(t, append(slices.Clone(w), w...))
		wantRead(t, w)
	}
	wantNone(t, make([]uint64, 1<<20))
	wantNone(t, slices.Repeat([]uint64{math.MaxUint64}, 1<<20))
}

// lengthsAt is where the four lengths stand.
func lengthsAt(w []uint64) []int {
	l := []int{0}
	for range 3 {
		last := l[len(l)-1]
		l = append(l, last+1+int(w[last]))
	}
	return l
}

func TestDecodeOfWrongLengths(t *testing.T) {
	for _, c := range []*unix.Core{unix.New(), play(t, busy()...).c} {
		w := c.Encode()
		for _, i := range lengthsAt(w) {
			n := w[i]
			for _, wrong := range append(farWords(), 0, 1, n-2, n-1, n+1, n+2, 2*n, n+1<<32, n+1<<63, uint64(len(w)), uint64(len(w)-i), uint64(len(w)-i-1), uint64(len(w)-i-2)) {
				if wrong == n {
					continue
				}
				bad := slices.Clone(w)
				bad[i] = wrong
				wantNone(t, bad)
			}
		}
	}
}

// One of the four parts is no words of its layer: empty, too short, too long, or another layer's.
func TestDecodeOfWrongParts(t *testing.T) {
	for _, good := range [][4][]uint64{none(), busyParts()} {
		wantRead(t, wordsOf(good[:]...))
		for i := range good {
			wrong := [][]uint64{nil, {0}, good[i][1:], good[i][:len(good[i])-1], append(slices.Clone(good[i]), 0), slices.Repeat([]uint64{99}, len(good[i])), slices.Repeat([]uint64{math.MaxUint64}, len(good[i]))}
			for k := range good {
				if k != i {
					wrong = append(wrong, good[k])
				}
			}
			for _, part := range wrong {
				bad := good
				bad[i] = part
				wantNone(t, wordsOf(bad[:]...))
				bad[(i+1)%4] = nil
				wantNone(t, wordsOf(bad[:]...))
			}
		}
		wantNone(t, wordsOf(good[:3]...))
		wantNone(t, wordsOf(good[0], good[1], good[2], good[3], nil))
		wantNone(t, wordsOf(good[3], good[2], good[1], good[0]))
	}
}

// oddParts is parts of which each is its layer's, but which no calls make together: the chapter says nothing of these, so that each four are a core's.
func oddParts() [][4][]uint64 {
	f, all := fds.New(), fds.New()
	for kind := 1; kind <= 4; kind++ {
		f.Open(1, api.File{Kind: kind, Id: 1 << 20, Off: 1 << 20, Append: true})
		f.Open(2, api.File{Kind: kind, Id: kind, Off: 190})
		f.Open(8, api.File{Kind: kind, Id: 15})
	}
	for pid := 1; pid <= 8; pid++ {
		for range 4 {
			all.Open(pid, api.File{Kind: 1 + pid%4, Id: pid})
		}
	}
	p := pipes.New()
	for range 16 {
		id, _ := p.Make()
		p.Put(id, "12345678"[:id%9])
	}
	s := signals.New()
	for pid := 1; pid <= 8; pid++ {
		s.Set(pid, pid, uint64(pid))
		s.Send(pid, pid)
		s.Send(pid, 9)
		s.Enter(pid, at(pid, 1, 2, 3))
	}
	t := procs.New()
	t.Begin()
	t.Fork(1)
	t.Fork(1)
	t.Exit(3, 7)
	n := none()
	return [][4][]uint64{
		{f.Encode(), n[1], n[2], n[3]}, {n[0], p.Encode(), n[2], n[3]}, {n[0], n[1], s.Encode(), n[3]}, {n[0], n[1], n[2], t.Encode()}, {all.Encode(), n[1], n[2], n[3]},
		{f.Encode(), p.Encode(), s.Encode(), n[3]}, {f.Encode(), p.Encode(), s.Encode(), t.Encode()}, {f.Encode(), n[1], n[2], t.Encode()}, {all.Encode(), p.Encode(), s.Encode(), t.Encode()}, {all.Encode(), n[1], n[2], t.Encode()},
	}
}

func TestDecodeOfPartsOfNoOneCore(t *testing.T) {
	for _, parts := range oddParts() {
		for _, first := range [][]call{nil, {begin(1), fork(1), fork(1)}, {open(1, "/f", 6), exit(2, 2), open(1, "/new", 1), pipe(1)}} {
			w := fresh(t)
			w.c = wantRead(t, wordsOf(parts[:]...))
			other := copyOf(t, w)
			for _, c := range append(first, usesUp()...) {
				if got, want := c.on(w), c.on(other); !got.same(want) {
					t.Fatalf("%v answers %v, want %v", c, got, want)
				}
				for fd := range uint64(6) {
					for pid := 1; pid <= 3; pid++ {
						read(pid, fd, 5).on(w)
						read(pid, fd, 5).on(other)
						write(pid, fd, "abc").on(w)
						write(pid, fd, "abc").on(other)
					}
				}
			}
		}
	}
}

// mayRead asks the layers, part by part.
func mayRead(w []uint64) bool {
	var parts [4][]uint64
	for i := range parts {
		if len(w) == 0 || w[0] >= uint64(len(w)) {
			return false
		}
		parts[i], w = w[1:w[0]+1], w[w[0]+1:]
	}
	_, e0 := fds.Decode(parts[0])
	_, e1 := pipes.Decode(parts[1])
	_, e2 := signals.Decode(parts[2])
	_, e3 := procs.Decode(parts[3])
	return len(w) == 0 && e0 == api.OK && e1 == api.OK && e2 == api.OK && e3 == api.OK
}

// wantAsMay asks Decode for what mayRead says, and answers whether that is something.
func wantAsMay(t *testing.T, w []uint64) bool {
	t.Helper()
	if !mayRead(w) {
		wantNone(t, w)
		return false
	}
	wantRead(t, w)
	return true
}

func TestDecodeOfAnyOneWordChanged(t *testing.T) {
	can, cannot := 0, 0
	for _, c := range []*unix.Core{unix.New(), play(t, busy()...).c} {
		w := c.Encode()
		for i := range w {
			for _, v := range []uint64{0, 1, 2, 3, 7, 8, 9, 16, 255, 256, 1 << 20, 1<<20 + 1, 1 << 32, 1<<32 + 1, 1 << 63, math.MaxUint64 - 1, math.MaxUint64, w[i] + 1, w[i] - 1, w[i] + 1<<32} {
				bad := slices.Clone(w)
				bad[i] = v
				if wantAsMay(t, bad) {
					can++
				} else {
					cannot++
				}
			}
		}
	}
	if can < 1000 || cannot < 1000 {
		t.Errorf("%d were read, %d were not", can, cannot)
	}
}

// Words that are changed at one or two places, cut, or of parts of several cores.
func TestDecodeOfDrawnWords(t *testing.T) {
	can, cannot := 0, 0
	for seed := range 3000 {
		d := dice(seed)
		w, m := fresh(t), newModel(60, house())
		begin(1).on(w)
		m.answer(begin(1))
		for range d.below(60) {
			c := d.call(m, 8)
			c.on(w)
			m.answer(c)
		}
		words := w.c.Encode()
		if d.below(4) == 0 {
			parts, other := cut(t, words), busyParts()
			i := d.below(4)
			parts[i] = other[i]
			words = wordsOf(parts[:]...)
		}
		for range d.below(3) {
			words[d.below(len(words))] = pickOf(&d, append(farWords(), 0, 0, 1, 1, 2, 3, 4, 5, byDefault, toIgnore))
		}
		if d.below(20) == 0 {
			words = words[:d.below(len(words))]
		}
		if wantAsMay(t, words) {
			can++
		} else {
			cannot++
		}
	}
	if can < 500 || cannot < 500 {
		t.Errorf("%d were read, %d were not", can, cannot)
	}
}
