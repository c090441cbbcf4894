package locks_test

import (
	"slices"
	"testing"

	"janus/api"
	"janus/locks"
)

// model is the chapter once more: when each that holds the lock or waits for it asked. Who holds it is kept apart.
type model struct {
	holder int
	asked  map[int]int
	clock  int
}

func newModel() *model { return &model{holder: nobody, asked: map[int]int{}} }

// do answers what the call should answer.
func (m *model) do(c call) (x answer) {
	switch c.name {
	case "Ask":
		m.ask(c.env)
		x.holds = c.env >= 0 && m.holder == c.env
	case "Leave":
		if c.env < 0 || m.holder != c.env {
			return answer{e: api.ErrNone}
		}
		m.pass()
		x.next = m.holder
	case "Gone":
		delete(m.asked, c.env)
		if c.env >= 0 && m.holder == c.env {
			m.pass()
		}
	}
	return x
}

func (m *model) ask(env int) {
	if env < 0 || m.holder == env {
		return
	}
	if m.holder == nobody {
		m.holder = env
		return
	}
	if _, waits := m.asked[env]; !waits {
		m.clock++
		m.asked[env] = m.clock
	}
}

// pass lets the one that asked first have the lock.
func (m *model) pass() {
	m.holder = nobody
	if queue := m.queue(); len(queue) > 0 {
		m.holder = queue[0]
		delete(m.asked, m.holder)
	}
}

func (m *model) queue() []int {
	var queue []int
	for env := range m.asked {
		queue = append(queue, env)
	}
	slices.SortFunc(queue, func(a, b int) int { return m.asked[a] - m.asked[b] })
	return queue
}

// both makes the call on both, and wants the same answer, and the same to be seen behind it.
func both(t *testing.T, l *locks.Lock, m *model, c call) {
	t.Helper()
	if got, want := c.on(l), m.do(c); got != want {
		t.Fatalf("%v answers %v, want %v", c, got, want)
	}
	wantState(t, l, m.holder, m.queue())
}

// dice throws the same numbers in every run.
type dice uint64

func (d *dice) below(n int) int {
	*d = *d*6364136223846793005 + 1442695040888963407
	return int(uint64(*d>>33) % uint64(n))
}

func pickOf[T any](d *dice, l []T) T { return l[d.below(len(l))] }

// env is mostly one of few, so that what one call did meets the next; often it is who has the lock.
func (d *dice) env(l *locks.Lock) int {
	switch d.below(16) {
	case 0:
		return pickOf(d, below())
	case 1:
		return pickOf(d, great())
	case 2, 3, 4, 5:
		return l.Holder()
	}
	return d.below(7)
}

func (d *dice) call(l *locks.Lock) call {
	switch d.below(9) {
	case 0:
		return gone(d.env(l))
	case 1, 2, 3:
		return leave(d.env(l))
	}
	return ask(d.env(l))
}

func TestAgainstTheModel(t *testing.T) {
	for seed := range 300 {
		d := dice(seed)
		l, m := fresh(t), newModel()
		for range 400 {
			both(t, l, m, d.call(l))
		}
	}
}

func TestAllShortRows(t *testing.T) {
	for _, of := range []struct{ envs, calls int }{{1, 7}, {2, 6}, {3, 5}} {
		var choices []call
		for env := nobody; env < of.envs; env++ {
			choices = append(choices, ask(env), leave(env), gone(env))
		}
		rows := 1
		for range of.calls {
			rows *= len(choices)
		}
		for row := range rows {
			l, m := fresh(t), newModel()
			for left := row; left > 0; left /= len(choices) {
				both(t, l, m, choices[left%len(choices)])
			}
		}
	}
}

// 24.2: of two that hold it one behind the other, whoever asked first and has not gone since is the first.
func TestWhoAsksHasItBehindThoseThatAskedAhead(t *testing.T) {
	for seed := range 200 {
		d := dice(seed)
		l := fresh(t)
		var ahead []int // all that asked and have neither had it nor gone, the first to ask ahead
		for range 300 {
			env := d.below(8)
			switch d.below(5) {
			case 0:
				l.Gone(env)
				ahead = slices.DeleteFunc(ahead, func(e int) bool { return e == env })
			case 1, 2:
				l.Leave(l.Holder())
			default:
				had := l.Holder()
				if l.Ask(env); had != env && !slices.Contains(ahead, env) {
					ahead = append(ahead, env)
				}
			}
			if has := l.Holder(); len(ahead) > 0 && has == ahead[0] {
				ahead = ahead[1:]
			} else if slices.Contains(ahead, has) {
				t.Fatalf("seed %d: %d has it, though %v asked ahead", seed, has, ahead)
			}
			if q := l.Queue(); !slices.Equal(q, ahead) {
				t.Fatalf("seed %d: %v wait, want %v", seed, q, ahead)
			}
		}
	}
}

// 24.2, T5: each that has it lets it go and asks again, and so it goes round.
func TestItGoesRound(t *testing.T) {
	for _, envs := range [][]int{{3}, {3, 0}, {0, 3}, {8, 1, 5}, {5, 4, 3, 2, 1, 0}, upTo(api.MaxEnvs), {11, 2, 1 << 40, 0, 1<<63 - 1, 7}} {
		l := fresh(t)
		for _, env := range envs {
			l.Ask(env)
		}
		for i := range 10 * len(envs) {
			env, next := envs[i%len(envs)], envs[(i+1)%len(envs)]
			if h := l.Holder(); h != env {
				t.Fatalf("%v, turn %d: %d has it, want %d", envs, i, h, env)
			}
			if len(envs) == 1 {
				next = nobody
			}
			if n, e := l.Leave(env); n != next || e != api.OK {
				t.Fatalf("%v, turn %d: Leave(%d) = %d, %v, want %d", envs, i, env, n, e, next)
			}
			if l.Ask(env) != (len(envs) == 1) {
				t.Fatalf("%v, turn %d: Ask(%d) = %v", envs, i, env, len(envs) > 1)
			}
		}
	}
}

// Who asks over and over has it once, not so often as it asked.
func TestWhoAsksTwiceWaitsOnce(t *testing.T) {
	l := fresh(t)
	for range 3 {
		for _, env := range []int{6, 2, 2, 4, 6, 2, 4} {
			l.Ask(env)
		}
	}
	wantRound(t, l, 6, 2, 4)
}

// The same calls answer the same, whatever other things were done to others.
func TestSameCallsAnswerTheSame(t *testing.T) {
	for seed := range 20 {
		d := dice(seed)
		a, b, other := fresh(t), fresh(t), fresh(t)
		for range 300 {
			c := d.call(a)
			d.call(other).on(other)
			if x, y := c.on(a), c.on(b); x != y || a.Holder() != b.Holder() || !slices.Equal(a.Queue(), b.Queue()) {
				t.Fatalf("seed %d: %v answers %v and %v", seed, c, x, y)
			}
		}
	}
}
