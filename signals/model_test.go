package signals_test

import (
	"math"
	"testing"

	"janus/api"
	"janus/signals"
)

// model is the chapter once more: what is set, what is pending, and what is kept of who is in a handler.
type model struct {
	handlers [9]map[int]uint64 // process 0 is none; those that are not there are default
	pending  [9]map[int]bool
	kept     [9]*api.Vm
}

func newModel() *model {
	m := &model{}
	for _, pid := range allPids() {
		m.gone(pid)
	}
	return m
}

func (m *model) gone(pid int) {
	m.handlers[pid], m.pending[pid], m.kept[pid] = map[int]uint64{}, map[int]bool{}, nil
}

func (m *model) handler(pid, sig int) uint64 {
	if h, is := m.handlers[pid][sig]; is {
		return h
	}
	return byDefault
}

func (m *model) next(pid int) answer {
	if m.pending[pid][9] {
		delete(m.pending[pid], 9)
		return answer{n: 9, h: byDefault, is: true}
	}
	if m.kept[pid] != nil {
		return answer{}
	}
	for _, sig := range allSigs() {
		was := m.pending[pid][sig]
		delete(m.pending[pid], sig)
		if h := m.handler(pid, sig); was && h != toIgnore {
			return answer{n: sig, h: h, is: true}
		}
	}
	return answer{}
}

func (m *model) fork(pid, child int) {
	if !isPid(pid) || !isPid(child) || pid == child {
		return
	}
	m.gone(child)
	for sig, h := range m.handlers[pid] {
		m.handlers[child][sig] = h
	}
	m.kept[child] = m.kept[pid] // nobody changes what it points at
}

func (m *model) clear(pid int) {
	for sig, h := range m.handlers[pid] {
		if h != toIgnore {
			delete(m.handlers[pid], sig)
		}
	}
	m.kept[pid] = nil
}

func (m *model) encode() []uint64 {
	var w []uint64
	for _, pid := range allPids() {
		pending := uint64(0)
		for _, sig := range allSigs() {
			w = append(w, m.handler(pid, sig))
			if m.pending[pid][sig] {
				pending += 1 << sig
			}
		}
		w = append(w, pending)
		if v := m.kept[pid]; v == nil {
			w = append(w, 0)
		} else {
			w = append(w, 1, uint64(v.Pc), uint64(len(v.Stack)))
			w = append(w, v.Stack...)
		}
	}
	return w
}

// do answers what the call should answer.
func (m *model) do(c call) (a answer) {
	errs := c.name == "Set" || c.name == "Send" || c.name == "Enter" || c.name == "Leave"
	switch {
	case c.name == "Encode":
		a.words = m.encode()
	case !isPid(c.pid) && errs:
		a.e = api.ESRCH
	case !isPid(c.pid):
	case c.name == "Set" && (!isSig(c.n) || c.n == 9), c.name == "Send" && !isSig(c.n):
		a.e = api.EINVAL
	case c.name == "Enter" && m.kept[c.pid] != nil, c.name == "Leave" && m.kept[c.pid] == nil:
		a.e = api.EINVAL
	case c.name == "Set":
		m.handlers[c.pid][c.n] = c.h
	case c.name == "Send":
		m.pending[c.pid][c.n] = true
	case c.name == "Next":
		a = m.next(c.pid)
	case c.name == "Enter":
		m.kept[c.pid] = &c.v
	case c.name == "Leave":
		a.v, m.kept[c.pid] = *m.kept[c.pid], nil
	case c.name == "Fork":
		m.fork(c.pid, c.n)
	case c.name == "Clear":
		m.clear(c.pid)
	case c.name == "Gone":
		m.gone(c.pid)
	}
	return a
}

// dice throws the same numbers in every run.
type dice uint64

func (d *dice) below(n int) int {
	*d = *d*6364136223846793005 + 1442695040888963407
	return int(uint64(*d>>33) % uint64(n))
}

func pickOf[T any](d *dice, l []T) T { return l[d.below(len(l))] }

// pid is mostly one of few, so that what one call did meets the next.
func (d *dice) pid() int {
	switch d.below(20) {
	case 0:
		return pickOf(d, noPids())
	case 1, 2, 3, 4:
		return 1 + d.below(lastPid)
	}
	return pickOf(d, []int{1, 2, lastPid})
}

func (d *dice) sig() int {
	switch d.below(20) {
	case 0:
		return pickOf(d, noSigs())
	case 1, 2, 3, 4, 5, 6:
		return 1 + d.below(lastSig)
	}
	return pickOf(d, []int{1, 2, 3, 8, 9, 10, 15})
}

func (d *dice) handler() uint64 {
	return pickOf(d, []uint64{byDefault, toIgnore, toIgnore, 0, 40, pickOf(d, places())})
}

// vm is one that words can be read as.
func (d *dice) vm() api.Vm {
	return at(pickOf(d, []int{0, 1, 7, d.below(1 << 20), 1 << 20}), stack(pickOf(d, []int{0, 0, 1, 2, 5, 32}))...)
}

// call is drawn so that the more is sent, the greedier.
func (d *dice) call(greed int) call {
	switch d.below(14 + greed) {
	case 0, 1, 2:
		return set(d.pid(), d.sig(), d.handler())
	case 3, 4, 5, 6, 7:
		return next(d.pid())
	case 8, 9:
		return enter(d.pid(), d.vm())
	case 10, 11:
		return leave(d.pid())
	case 12:
		return pickOf(d, []call{fork(d.pid(), d.pid()), fork(d.pid(), d.pid()), clears(d.pid())})
	case 13:
		return pickOf(d, []call{gone(d.pid()), gone(pickOf(d, noPids())), clears(d.pid()), encode()})
	}
	return send(d.pid(), d.sig())
}

func wantLike(t *testing.T, seed int, s *signals.Signals, m *model, calls ...call) {
	t.Helper()
	for _, c := range calls {
		if got, want := c.on(s), m.do(c); !got.same(want) {
			t.Fatalf("seed %d: %v answers %v, want %v", seed, c, got, want)
		}
	}
}

func TestAgainstTheModel(t *testing.T) {
	passed, ahead := 0, 0 // Nexts that tell none and yet drop some, and 9s with others that are to be ignored
	for seed := range 300 {
		d := dice(seed)
		s, m := fresh(t), newModel()
		for i := range 500 {
			c := d.call(2 + seed%12)
			if c.name == "Next" && isPid(c.pid) && m.kept[c.pid] == nil {
				drops := 0
				for sig := range m.pending[c.pid] {
					if m.handler(c.pid, sig) == toIgnore {
						drops++
					}
				}
				if drops > 0 && m.pending[c.pid][9] {
					ahead++
				} else if drops > 0 && drops == len(m.pending[c.pid]) {
					passed++
				}
			}
			wantLike(t, seed, s, m, c, encode())
			if i%50 == 49 { // what was read from words goes on as what was not
				s = wantBack(t, s)
			}
		}
		wantLike(t, seed, s, m, usesUp()...)
	}
	if passed < 300 || ahead < 300 {
		t.Errorf("Next passed all only %d times, 9 was ahead of others only %d times", passed, ahead)
	}
}

// few is calls on two processes, few enough for all rows of them.
func few(i int) []call {
	return []call{
		set(1, 2, toIgnore), set(1, 2, 40), set(2, 2, toIgnore),
		send(1, 2), send(1, 9), send(1, 10), send(2, 2),
		next(1), next(2),
		enter(1, at(i, 7)), leave(1), leave(2),
		fork(1, 2), fork(2, 1), clears(1), gone(1),
	}
}

func TestAllShortRows(t *testing.T) {
	const calls = 4
	n := len(few(0))
	for row := range n * n * n * n {
		s, m, left := fresh(t), newModel(), row
		for i := range calls {
			wantLike(t, row, s, m, few(i)[left%n], encode())
			left /= n
		}
		wantLike(t, row, s, m, next(1), next(1), next(2), leave(1), leave(2), next(1), next(2), send(1, 2), send(2, 2), next(1), next(2), encode())
	}
}

// 20.3: what is sent is told once: as often as it is told, it was sent since then, and what nobody ignores is told in the end.
func TestSignalsAreToldOnce(t *testing.T) {
	for seed := range 100 {
		d := dice(seed)
		s := fresh(t)
		var waits, ignores [9][16]bool
		wantTold := func(pid int) bool {
			sig, _, is := s.Next(pid)
			if is && (!waits[pid][sig] || ignores[pid][sig]) {
				t.Fatalf("seed %d: Next(%d) tells %d, which does not wait or is to be ignored", seed, pid, sig)
			}
			waits[pid][sig] = false
			return is
		}
		for range 1000 {
			pid, sig := 1+d.below(8), 1+d.below(15)
			switch d.below(6) {
			case 0:
				if h := d.handler(); !waits[pid][sig] && s.Set(pid, sig, h) == api.OK { // so that none that waits is passed, and then told
					ignores[pid][sig] = h == toIgnore
				}
			case 1:
				wantTold(pid)
			case 2:
				s.Enter(pid, d.vm())
			case 3:
				s.Leave(pid)
			default:
				s.Send(pid, sig)
				waits[pid][sig] = true
			}
			if d.below(100) == 0 {
				s = wantBack(t, s)
			}
		}
		for _, pid := range allPids() {
			for s.Leave(pid); wantTold(pid); {
			}
			for _, sig := range allSigs() {
				if waits[pid][sig] && !ignores[pid][sig] {
					t.Fatalf("seed %d: %d was sent to %d, and was not told", seed, sig, pid)
				}
			}
		}
	}
}

// The same calls answer the same, whatever other things were done to others.
func TestSameCallsAnswerTheSame(t *testing.T) {
	for seed := range 20 {
		d := dice(seed)
		s, twin, other := fresh(t), fresh(t), fresh(t)
		for range 300 {
			c := d.call(6)
			d.call(6).on(other)
			if got, want := c.on(s), c.on(twin); !got.same(want) {
				t.Fatalf("seed %d: %v answers %v and %v", seed, c, got, want)
			}
		}
	}
}

// All that is no process, no signal, and no machine that words can be read as: none panics, and each ends.
func TestAnyArguments(t *testing.T) {
	numbers := append(append(noPids(), allPids()...), noSigs()...)
	s, m := fresh(t), newModel()
	for _, pid := range numbers {
		for _, n := range append(numbers, math.MinInt32, math.MaxInt32) {
			wantLike(t, pid, s, m, set(pid, n, uint64(n)), send(pid, n), enter(pid, at(n, stack(3)...)), next(pid), fork(pid, n), fork(n, pid), encode())
			wantLike(t, pid, s, m, leave(pid), next(pid), clears(n), encode())
		}
		wantLike(t, pid, s, m, gone(pid), encode())
	}
}
