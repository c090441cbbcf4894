package procs_test

import (
	"math"
	"testing"

	"janus/api"
	"janus/procs"
)

// The states of a pid.
const (
	isFree = iota
	isLiving
	isZombie
)

// model is the chapter once more, on rows that are gone over pid by pid; place 0 is of none.
type model struct {
	state, parent, status [9]int
}

func (m *model) lives(pid int) bool { return isPid(pid) && m.state[pid] == isLiving }

func (m *model) empty() bool { return m.state == [9]int{} }

func (m *model) begin() answer {
	if !m.empty() {
		return answer{}
	}
	m.state[1] = isLiving
	return answer{n: 1}
}

func (m *model) fork(pid int) answer {
	for child := 1; child <= 8; child++ {
		if m.state[child] == isFree {
			m.state[child], m.parent[child] = isLiving, pid
			return answer{n: child}
		}
	}
	return answer{e: api.EAGAIN}
}

func (m *model) drop(pid int) { m.state[pid], m.parent[pid], m.status[pid] = isFree, 0, 0 }

func (m *model) exit(pid, status int) answer {
	m.state[pid], m.status[pid] = isZombie, status
	for child := 1; child <= 8; child++ {
		if m.parent[child] == pid {
			m.parent[child] = 0
		}
	}
	for z := 1; z <= 8; z++ {
		if m.state[z] == isZombie && m.parent[z] == 0 {
			m.drop(z)
		}
	}
	return answer{}
}

func (m *model) wait(pid int) answer {
	a := answer{e: api.ECHILD}
	for child := 8; child >= 1; child-- { // so that the lowest is what is left
		if m.parent[child] != pid {
			continue
		}
		if m.state[child] == isZombie {
			a = answer{n: child, status: m.status[child], is: true}
		} else if !a.is {
			a = answer{}
		}
	}
	if a.is {
		m.drop(a.n)
	}
	return a
}

func (m *model) all() (pids []int) {
	for _, pid := range allPids() {
		if m.lives(pid) {
			pids = append(pids, pid)
		}
	}
	return pids
}

func (m *model) encode() (w []uint64) {
	for _, pid := range allPids() {
		w = append(w, uint64(m.state[pid]), uint64(m.parent[pid]), uint64(m.status[pid]))
	}
	return w
}

// do answers what the call should answer.
func (m *model) do(c call) answer {
	switch {
	case c.name == "Begin":
		return m.begin()
	case c.name == "All":
		return answer{pids: m.all()}
	case c.name == "Encode":
		return answer{words: m.encode()}
	case c.name == "Live":
		return answer{is: m.lives(c.pid)}
	case c.name == "Parent" && (!isPid(c.pid) || m.state[c.pid] == isFree):
		return answer{n: -1}
	case c.name == "Parent":
		return answer{n: m.parent[c.pid]}
	case !m.lives(c.pid):
		return answer{e: api.ESRCH}
	case c.name == "Fork":
		return m.fork(c.pid)
	case c.name == "Exit":
		return m.exit(c.pid, c.status)
	}
	return m.wait(c.pid)
}

// dice throws the same numbers in every run.
type dice uint64

func (d *dice) below(n int) int {
	*d = *d*6364136223846793005 + 1442695040888963407
	return int(uint64(*d>>33) % uint64(n))
}

func pickOf[T any](d *dice, l []T) T { return l[d.below(len(l))] }

func (d *dice) pid() int {
	if d.below(20) == 0 {
		return pickOf(d, noPids())
	}
	return 1 + d.below(lastPid)
}

func (d *dice) status() int {
	if d.below(4) == 0 {
		return pickOf(d, statuses())
	}
	return d.below(256)
}

// call is drawn so that the more live, the greedier.
func (d *dice) call(greed int) call {
	switch d.below(10 + greed) {
	case 0:
		return begin()
	case 1:
		return pickOf(d, []call{live(d.pid()), parent(d.pid()), all(), encode()})
	case 2, 3, 4:
		return exit(d.pid(), d.status())
	case 5, 6, 7, 8, 9:
		return wait(d.pid())
	}
	return fork(d.pid())
}

func wantLike(t *testing.T, seed int, p *procs.Procs, m *model, calls ...call) {
	t.Helper()
	for _, c := range calls {
		if got, want := c.on(p), m.do(c); !got.same(want) {
			t.Fatalf("seed %d: %v answers %v, want %v", seed, c, got, want)
		}
	}
}

func TestAgainstTheModel(t *testing.T) {
	counts := map[string]int{}
	for seed := range 300 {
		d := dice(seed)
		p, m := fresh(t), &model{}
		for i := range 300 {
			c := d.call(2 + seed%12)
			before := *m
			wantLike(t, seed, p, m, c)
			m2 := before
			count(counts, c, m2.do(c), before)
			wantLike(t, seed, p, m, asks()...)
			if i%50 == 49 { // what was read from words goes on as what was not
				p = wantBack(t, p)
			}
		}
		wantLike(t, seed, p, m, usesUp()...)
	}
	for _, what := range []string{"full", "told", "waits", "childless", "orphaned", "buried", "begun anew"} {
		if counts[what] < 100 {
			t.Errorf("%s only %d times", what, counts[what])
		}
	}
}

// count counts what a call of that answer met, ahead of which the model was before.
func count(counts map[string]int, c call, a answer, before model) {
	switch {
	case a.e == api.EAGAIN:
		counts["full"]++
	case a.e == api.ECHILD:
		counts["childless"]++
	case c.name == "Wait" && a.is:
		counts["told"]++
	case c.name == "Wait" && a.e == api.OK:
		counts["waits"]++
	case c.name == "Begin" && a.n == 1:
		counts["begun anew"]++
	case c.name == "Exit" && a.e == api.OK:
		for _, pid := range allPids() {
			if before.parent[pid] == c.pid && before.state[pid] == isLiving {
				counts["orphaned"]++
			} else if before.parent[pid] == c.pid {
				counts["buried"]++
			}
		}
	}
}

// few is calls on three processes, few enough for all rows of them.
func few(i int) []call {
	return []call{begin(), fork(1), fork(2), fork(3), exit(1, i), exit(2, 10+i), exit(3, 20+i), wait(1), wait(2), wait(3)}
}

func TestAllShortRows(t *testing.T) {
	const calls = 5
	n := len(few(0))
	for row := range n * n * n * n * n {
		p, m, left := fresh(t), &model{}, row
		wantLike(t, row, p, m, begin(), fork(1))
		for i := range calls {
			wantLike(t, row, p, m, few(i)[left%n], encode())
			left /= n
		}
		wantLike(t, row, p, m, asks()...)
		wantLike(t, row, p, m, wait(1), wait(2), wait(3), wait(1), wait(2), wait(3), encode())
	}
}

// From whatever words can be read: they are done as the model does them, those too whose parent is a zombie.
func TestAnyWordsAgainstTheModel(t *testing.T) {
	can := 0
	for seed := range 20000 {
		d := dice(seed)
		w := wordsOf()
		for _, pid := range allPids() {
			w = put(w, pid, pickOf(&d, [][]uint64{free(), lives(0), lives(d.below(9)), lives(d.below(9)), zombie(d.below(9), uint64(d.status()))}))
		}
		if !mayRead(w) {
			continue
		}
		can++
		p, m := wantRead(t, w), &model{}
		for _, pid := range allPids() {
			m.state[pid], m.parent[pid], m.status[pid] = int(w[3*pid-3]), int(w[3*pid-2]), int(w[3*pid-1])
		}
		for range 20 {
			wantLike(t, seed, p, m, d.call(4), encode())
		}
		wantLike(t, seed, p, m, asks()...)
	}
	if can < 300 {
		t.Errorf("only %d could be read", can)
	}
}

// 21.3: each zombie is told once, to its parent; those whose parent ended are told to nobody.
func TestZombiesAreToldOnce(t *testing.T) {
	told, dropped := 0, 0
	for seed := range 200 {
		d := dice(seed)
		p := fresh(t)
		p.Begin()
		type zombie struct{ pid, parent int }
		waiting := map[int]zombie{} // by their statuses, of which no two are the same
		for i := range 500 {
			pid := d.pid()
			switch d.below(5) {
			case 0:
				whose := p.Parent(pid)
				if p.Exit(pid, i) != api.OK {
					continue
				}
				for status, z := range waiting {
					if z.parent == pid {
						delete(waiting, status)
						dropped++
					}
				}
				if whose != 0 {
					waiting[i] = zombie{pid, whose}
				}
			case 1, 2:
				z, status, _, is := p.Wait(pid)
				if !is {
					continue
				}
				if waiting[status] != (zombie{z, pid}) {
					t.Fatalf("seed %d: Wait(%d) tells %d, %d, and those that wait are %v", seed, pid, z, status, waiting)
				}
				delete(waiting, status)
				told++
			case 3:
				p.Begin()
			default:
				p.Fork(pid)
			}
			if d.below(100) == 0 {
				p = wantBack(t, p)
			}
		}
		for _, pid := range p.All() {
			for _, _, _, is := p.Wait(pid); is; _, _, _, is = p.Wait(pid) {
			}
		}
		for _, w := range waiting {
			if p.Parent(w.pid) != -1 {
				t.Fatalf("seed %d: %v was not told", seed, w)
			}
		}
	}
	if told < 1000 || dropped < 300 {
		t.Errorf("%d were told, %d were not", told, dropped)
	}
}

// The same calls answer the same, whatever other things were done to others.
func TestSameCallsAnswerTheSame(t *testing.T) {
	for seed := range 50 {
		d := dice(seed)
		p, twin, other := fresh(t), fresh(t), fresh(t)
		for range 300 {
			c := d.call(6)
			d.call(6).on(other)
			if got, want := c.on(p), c.on(twin); !got.same(want) {
				t.Fatalf("seed %d: %v answers %v and %v", seed, c, got, want)
			}
		}
		wantSame(t, encode(), p, twin)
	}
}

// All that is no process, with any status: none panics, and each ends.
func TestAnyArguments(t *testing.T) {
	numbers := append(append(noPids(), allPids()...), math.MinInt32, math.MaxInt32)
	for _, l := range [][]step{steps(), flat(), busy()} {
		p, m := fresh(t), &model{}
		for _, x := range l {
			wantLike(t, 0, p, m, x.call)
		}
		for _, pid := range numbers {
			for _, status := range append(statuses(), numbers...) {
				wantLike(t, pid, p, m, fork(pid), wait(pid), live(pid), parent(pid), encode())
				if !isPid(pid) {
					wantLike(t, pid, p, m, exit(pid, status), encode())
				}
			}
		}
		for i, pid := range numbers {
			wantLike(t, pid, p, m, exit(pid, numbers[len(numbers)-1-i]), all(), encode())
		}
	}
}
