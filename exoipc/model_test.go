package exoipc_test

import (
	"maps"
	"slices"
	"testing"

	"janus/api"
	"janus/exoipc"
)

// letter is a message of the model, which says itself whom it is for.
type letter struct {
	from, to int
	words    []uint64
}

// model is the chapter once more: all letters that wait, whomever they are for, in the order in which they were sent.
type model struct{ letters []letter }

// do answers what the call should answer.
func (m *model) do(c call) (x answer) {
	switch c.name {
	case "Send":
		x.e = m.send(c)
	case "Recv":
		if i := slices.IndexFunc(m.letters, func(l letter) bool { return l.to == c.env }); i >= 0 {
			x.n, x.words, x.has = m.letters[i].from, m.letters[i].words, true
			m.letters = slices.Delete(m.letters, i, i+1)
		}
	case "Waiting":
		x.n = len(m.from(c.env))
	case "From":
		x.list = m.from(c.env)
	case "Gone":
		m.letters = slices.DeleteFunc(m.letters, func(l letter) bool { return l.from == c.env || l.to == c.env })
	}
	return x
}

func (m *model) send(c call) api.Errno {
	switch {
	case c.from < 0 || c.from > 11 || c.env < 0 || c.env > 11 || len(c.words) > 8:
		return api.ErrArg
	case len(m.from(c.env)) == 4:
		return api.ErrFull
	}
	m.letters = append(m.letters, letter{c.from, c.env, slices.Clone(c.words)})
	return api.OK
}

func (m *model) from(env int) []int {
	var l []int
	for _, x := range m.letters {
		if x.to == env {
			l = append(l, x.from)
		}
	}
	return l
}

// dice throws the same numbers in every run.
type dice uint64

func (d *dice) below(n int) int {
	*d = *d*6364136223846793005 + 1442695040888963407
	return int(uint64(*d>>33) % uint64(n))
}

func pickOf[T any](d *dice, l []T) T { return l[d.below(len(l))] }

// env is mostly one of few, so that what one call did meets the next.
func (d *dice) env() int {
	switch d.below(12) {
	case 0:
		return pickOf(d, noEnvs())
	case 1, 2:
		return d.below(api.MaxEnvs)
	}
	return pickOf(d, []int{0, 3, lastEnv})
}

// words begins with the tag, if it may, so that no two messages are alike.
func (d *dice) words(tag int) []uint64 {
	l := slices.Clone(pickOf(d, rows()))
	if d.below(20) == 0 {
		l = slices.Clone(pickOf(d, tooMany()[:3]))
	}
	if len(l) > 0 {
		l[0] = uint64(tag)
	}
	return l
}

func (d *dice) call(tag int) call {
	switch d.below(16) {
	case 0:
		return gone(d.env())
	case 1, 2, 3, 4, 5:
		return recv(d.env())
	case 6:
		return waiting(d.env())
	case 7:
		return from(d.env())
	}
	return send(d.env(), d.env(), d.words(tag)...)
}

func TestAgainstTheModel(t *testing.T) {
	for seed := range 200 {
		d := dice(seed)
		p, m := fresh(t), &model{}
		for i := range 400 {
			c := d.call(i)
			if got, want := c.on(p), m.do(c); !got.same(want) {
				t.Fatalf("seed %d, call %d: %v answers %v, want %v", seed, i, c, got, want)
			}
			for env := range api.MaxEnvs {
				for _, c := range []call{waiting(env), from(env)} {
					if got, want := c.on(p), m.do(c); !got.same(want) {
						t.Fatalf("seed %d, call %d: %v answers %v, want %v", seed, i, c, got, want)
					}
				}
			}
		}
	}
}

// few is the calls on so many environments that change something; what is sent is told apart by where in the row it is.
func few(envs, at int) []call {
	var l []call
	for env := range envs {
		l = append(l, recv(env), gone(env))
		for to := range envs {
			l = append(l, send(env, to, uint64(at)))
		}
	}
	return l
}

func TestAllShortRows(t *testing.T) {
	for _, of := range []struct{ envs, calls int }{{1, 9}, {2, 6}, {3, 4}} {
		var choices [][]call
		all := 1
		for at := range of.calls {
			choices = append(choices, few(of.envs, at))
			all *= len(choices[at])
		}
		for row := range all {
			wantRow(t, of.envs, row, choices)
		}
	}
}

// wantRow makes the calls that the row's digits choose, and takes what waits at its end.
func wantRow(t *testing.T, envs, row int, choices [][]call) {
	t.Helper()
	p, m := fresh(t), &model{}
	left := row
	for _, l := range choices {
		c := l[left%len(l)]
		left /= len(l)
		if got, want := c.on(p), m.do(c); !got.same(want) {
			t.Fatalf("row %d of %d: %v answers %v, want %v", row, envs, c, got, want)
		}
	}
	for env := range envs {
		for _, c := range []call{waiting(env), from(env), recv(env), recv(env), recv(env), recv(env), recv(env)} {
			if got, want := c.on(p), m.do(c); !got.same(want) {
				t.Fatalf("row %d of %d: at its end %v answers %v, want %v", row, envs, c, got, want)
			}
		}
	}
}

// lane is from whom to whom.
type lane struct{ from, to int }

// traffic is what was sent and has not come yet, lane by lane.
type traffic struct {
	ipc *exoipc.Ipc
	way map[lane][]uint64
}

func (x *traffic) send(from, to int, tag uint64) {
	if x.ipc.Send(from, to, []uint64{tag}) == api.OK {
		l := lane{from, to}
		x.way[l] = append(x.way[l], tag)
	}
}

func (x *traffic) gone(env int) {
	x.ipc.Gone(env)
	maps.DeleteFunc(x.way, func(l lane, _ []uint64) bool { return l.from == env || l.to == env })
}

// recv wants what comes to be the first that is on its way in its lane, and answers whether something came.
func (x *traffic) recv(t *testing.T, to int) bool {
	t.Helper()
	from, words, ok := x.ipc.Recv(to)
	if !ok {
		return false
	}
	l := lane{from, to}
	if len(words) != 1 || len(x.way[l]) == 0 || words[0] != x.way[l][0] {
		t.Fatalf("from %d to %d comes %v, on their way are %v", from, to, words, x.way[l])
	}
	x.way[l] = x.way[l][1:]
	return true
}

// 11.2: what is on its way in a lane comes in its order, each once, whatever is done in between; what is gone never comes.
func TestEachLaneKeepsItsOrder(t *testing.T) {
	for seed := range 100 {
		d := dice(seed)
		x := &traffic{fresh(t), map[lane][]uint64{}}
		for tag := range uint64(1000) {
			a, b := d.below(api.MaxEnvs), d.below(3)
			switch d.below(12) {
			case 0:
				x.gone(a)
			case 1, 2, 3, 4, 5:
				x.recv(t, b)
			default:
				x.send(a, b, tag)
			}
		}
		for to := range 3 {
			for x.recv(t, to) {
			}
		}
		for l, tags := range x.way {
			if len(tags) > 0 {
				t.Fatalf("seed %d: from %d to %d never came %v", seed, l.from, l.to, tags)
			}
		}
	}
}

// The same calls answer the same, whatever other things were done to others.
func TestSameCallsAnswerTheSame(t *testing.T) {
	for seed := range 20 {
		d := dice(seed)
		p, q, other := fresh(t), fresh(t), fresh(t)
		for i := range 300 {
			c := d.call(i)
			d.call(i).on(other)
			if got, want := c.on(p), c.on(q); !got.same(want) {
				t.Fatalf("seed %d: %v answers %v and %v", seed, c, got, want)
			}
		}
	}
}
