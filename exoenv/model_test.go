package exoenv_test

import (
	"math"
	"slices"
	"testing"

	"janus/api"
	"janus/exoenv"
)

// model is the chapter once more: who lives, whose the slices are, and what waits, each in a set or a list of its own.
type model struct {
	live  map[int]bool
	owner []int
	waits map[int][]uint64
}

func newModel(n int) *model {
	return &model{map[int]bool{}, owners(n, nobody), map[int][]uint64{}}
}

// do answers what the call should answer.
func (m *model) do(c call) (x answer) {
	switch c.name {
	case "Create":
		x.e = m.create(c.env)
	case "Kill":
		x.e = m.kill(c.env)
	case "Live":
		for env := range m.live {
			x.list = append(x.list, env)
		}
		slices.Sort(x.list)
	case "Is":
		x.has = m.live[c.env]
	case "Slice":
		x.e = m.slice(c.n, c.env)
	case "Vector":
		x.list = slices.Clone(m.owner)
	case "Pick":
		x.n = m.pick(c.n)
	case "Fault":
		x.e = m.fault(c.env, c.addr)
	case "Upcall":
		if l := m.waits[c.env]; len(l) > 0 {
			x.addr, x.has = l[0], true
			delete(m.waits, c.env)
		}
	}
	return x
}

func (m *model) create(env int) api.Errno {
	switch {
	case env < 0 || env > 11:
		return api.ErrArg
	case m.live[env]:
		return api.ErrFull
	}
	m.live[env] = true
	return api.OK
}

func (m *model) kill(env int) api.Errno {
	if !m.live[env] {
		return api.ErrNone
	}
	delete(m.live, env)
	delete(m.waits, env)
	for i, o := range m.owner {
		if o == env {
			m.owner[i] = nobody
		}
	}
	return api.OK
}

func (m *model) slice(slot, env int) api.Errno {
	switch {
	case slot < 0 || slot >= len(m.owner):
		return api.ErrArg
	case env != nobody && !m.live[env]:
		return api.ErrNone
	}
	m.owner[slot] = env
	return api.OK
}

// pick goes towards the slices by ever shorter strides, so that no remainder of a number below 0 is asked for.
func (m *model) pick(n int) int {
	l := len(m.owner)
	for _, far := range []int{l << 50, l << 40, l << 30, l << 20, l << 10, l} {
		for n < 0 {
			n += far
		}
		for n >= far {
			n -= far
		}
	}
	return m.owner[n]
}

func (m *model) fault(env int, addr uint64) api.Errno {
	switch {
	case !m.live[env]:
		return api.ErrNone
	case len(m.waits[env]) > 0:
		return api.ErrFull
	}
	m.waits[env] = []uint64{addr}
	return api.OK
}

// dice throws the same numbers in every run.
type dice uint64

func (d *dice) below(n int) int {
	*d = *d*6364136223846793005 + 1442695040888963407
	return int(uint64(*d>>33) % uint64(n))
}

func pickOf[T any](d *dice, l []T) T { return l[d.below(len(l))] }

// env is mostly one of few, so that what one call did meets the next.
func (d *dice) env() int {
	switch d.below(12) {
	case 0:
		return pickOf(d, noEnvs())
	case 1:
		return nobody
	case 2, 3:
		return d.below(api.MaxEnvs)
	}
	return pickOf(d, []int{0, 3, lastEnv})
}

func (d *dice) slot(n int) int {
	if d.below(8) == 0 {
		return pickOf(d, noSlots(n))
	}
	return d.below(n)
}

func (d *dice) call(n int) call {
	switch d.below(12) {
	case 0, 1:
		return create(d.env())
	case 2:
		return kill(d.env())
	case 3, 4, 5:
		return slice(d.slot(n), d.env())
	case 6:
		return pick(d.below(8*n) - 4*n)
	case 7:
		return pick(pickOf(d, []int{math.MaxInt, math.MinInt, 1 << 40, -1 << 40, math.MaxInt - 1, math.MinInt + 1}))
	case 8, 9:
		return fault(d.env(), pickOf(d, addrs()))
	case 10:
		return upcall(d.env())
	}
	return pickOf(d, []call{live(), vector(), lives(d.env())})
}

func TestAgainstTheModel(t *testing.T) {
	for seed := range 200 {
		d := dice(seed)
		n := pickOf(&d, []int{1, 2, 3, 5, 7, 16, 63, 64})
		e, m := fresh(t, n), newModel(n)
		for i := range 400 {
			c := d.call(n)
			if got, want := c.on(e), m.do(c); !got.same(want) {
				t.Fatalf("seed %d, call %d: %v of %d slices answers %v, want %v", seed, i, c, n, got, want)
			}
			for _, c := range []call{live(), vector()} {
				if got, want := c.on(e), m.do(c); !got.same(want) {
					t.Fatalf("seed %d, call %d: %v answers %v, want %v", seed, i, c, got, want)
				}
			}
			wantOwned(t, c, e)
		}
	}
}

// few is the calls on two environments and two slices that change something.
func few() []call {
	var l []call
	for env := range 2 {
		l = append(l, create(env), kill(env), upcall(env), fault(env, uint64(env)))
		for slot := range 2 {
			l = append(l, slice(slot, env))
		}
	}
	return append(l, slice(0, nobody), slice(1, nobody))
}

// All rows of four such calls.
func TestAllShortRows(t *testing.T) {
	l := few()
	for row := range len(l) * len(l) * len(l) * len(l) {
		e, m := fresh(t, 2), newModel(2)
		left := row
		for range 4 {
			c := l[left%len(l)]
			left /= len(l)
			if got, want := c.on(e), m.do(c); !got.same(want) {
				t.Fatalf("row %d: %v answers %v, want %v", row, c, got, want)
			}
			wantOwned(t, c, e)
		}
		for _, c := range []call{live(), vector(), lives(0), lives(1), pick(0), pick(1), upcall(0), upcall(1)} {
			if got, want := c.on(e), m.do(c); !got.same(want) {
				t.Fatalf("row %d: at its end %v answers %v, want %v", row, c, got, want)
			}
		}
	}
}

// The same calls answer the same, whatever other things were done to other vectors.
func TestSameCallsAnswerTheSame(t *testing.T) {
	for seed := range 20 {
		d := dice(seed)
		e, f := exoenv.New(5), exoenv.New(5)
		for range 300 {
			c := d.call(5)
			if got, want := c.on(e), c.on(f); !got.same(want) {
				t.Fatalf("seed %d: %v answers %v and %v", seed, c, got, want)
			}
		}
	}
}
