package pipes_test

import (
	"math"
	"slices"
	"testing"

	"janus/api"
	"janus/pipes"
)

// model is the chapter once more: which numbers are made, and the bytes in each as a text.
type model struct {
	made [16]bool
	in   [16]string
}

func (m *model) is(id int) bool { return id >= 0 && id < 16 && m.made[id] }

func (m *model) encode() []uint64 {
	var w []uint64
	for id, made := range m.made {
		if !made {
			w = append(w, 0)
			continue
		}
		w = append(w, 1, uint64(len(m.in[id])))
		for _, b := range []byte(m.in[id]) {
			w = append(w, uint64(b))
		}
	}
	return w
}

// do answers what the call should answer.
func (m *model) do(c call) (a answer) {
	switch {
	case c.name == "Encode":
		a.words = m.encode()
	case c.name == "Make":
		if a.n = slices.Index(m.made[:], false); a.n < 0 {
			return answer{e: api.EAGAIN}
		}
		m.made[a.n], m.in[a.n] = true, ""
	case c.name == "Drop":
		if !m.is(c.id) {
			return answer{e: api.ErrNone}
		}
		m.made[c.id] = false
	case !m.is(c.id):
	case c.name == "Put":
		a.n = min(len(c.s), 8-len(m.in[c.id]))
		m.in[c.id] += c.s[:a.n]
	case c.name == "Take":
		n := min(max(c.n, 0), len(m.in[c.id]))
		a.s, m.in[c.id] = m.in[c.id][:n], m.in[c.id][n:]
	case c.name == "Len":
		a.n = len(m.in[c.id])
	}
	return a
}

// dice throws the same numbers in every run.
type dice uint64

func (d *dice) below(n int) int {
	*d = *d*6364136223846793005 + 1442695040888963407
	return int(uint64(*d>>33) % uint64(n))
}

func pickOf[T any](d *dice, l []T) T { return l[d.below(len(l))] }

// id is mostly one of few, so that what one call did meets the next.
func (d *dice) id() int {
	switch d.below(16) {
	case 0:
		return pickOf(d, noIds())
	case 1, 2, 3, 4, 5:
		return d.below(most)
	}
	return pickOf(d, []int{0, 1, most - 1})
}

func (d *dice) text() string {
	n := d.below(6)
	if d.below(6) == 0 {
		n = d.below(20)
	}
	b := make([]byte, n)
	for i := range b {
		b[i] = byte(d.below(256))
	}
	return string(b)
}

func (d *dice) count() int {
	if d.below(10) == 0 {
		return pickOf(d, []int{0, -1, math.MinInt, math.MaxInt, 9, 100})
	}
	return 1 + d.below(6)
}

// call is drawn so that Makes come greed times as often as Drops.
func (d *dice) call(greed int) call {
	switch d.below(12) {
	case 0, 1:
		if d.below(1+greed) == 0 {
			return drop(d.id())
		}
		return makes()
	case 2:
		return length(d.id())
	case 3, 4, 5, 6:
		return take(d.id(), d.count())
	}
	return put(d.id(), d.text())
}

func wantLike(t *testing.T, seed int, p *pipes.Pipes, m *model, calls ...call) {
	t.Helper()
	for _, c := range calls {
		if got, want := c.on(p), m.do(c); !got.same(want) {
			t.Fatalf("seed %d: %v answers %v, want %v", seed, c, got, want)
		}
	}
}

func TestAgainstTheModel(t *testing.T) {
	all, full := 0, 0
	for seed := range 300 {
		d := dice(seed)
		p, m := fresh(t), &model{}
		for i := range 500 {
			wantLike(t, seed, p, m, d.call(1+seed%8), encode())
			wantLike(t, seed, p, m, looksAt()...)
			if !slices.Contains(m.made[:], false) {
				all++
			}
			if len(m.in[0]) == 8 {
				full++
			}
			if i%50 == 49 { // what was read from words goes on as what was not
				p = wantBack(t, p)
			}
		}
		wantLike(t, seed, p, m, usesUp()...)
	}
	if all < 1000 || full < 1000 {
		t.Errorf("all were made only %d times, one was full only %d times", all, full)
	}
}

// few is calls on two pipes, few enough for all rows of them.
func few(at int) []call {
	s := "abcdefghijklmnopqrstuvwxyz"[at*4:]
	return []call{
		makes(), drop(0), drop(1),
		put(0, s[:1]), put(0, s[:5]), put(0, s[:9]), put(1, s[:3]),
		take(0, 1), take(0, 4), take(0, 9), take(1, 2),
	}
}

func TestAllShortRows(t *testing.T) {
	const calls = 5
	n := len(few(0))
	for row := range n * n * n * n * n {
		p, m, left := fresh(t), &model{}, row
		wantLike(t, row, p, m, makes())
		for at := range calls {
			wantLike(t, row, p, m, few(at)[left%n], encode())
			left /= n
		}
		wantLike(t, row, p, m, length(0), length(1), makes(), encode(), take(0, 8), take(1, 8))
	}
}

// 19.3: what comes out of a pipe, and what is in it still, is what was put in, in its order, each byte once.
func TestBytesComeOutInTheirOrderEachOnce(t *testing.T) {
	for seed := range 100 {
		d := dice(seed)
		p := fresh(t)
		var in, out [most]string
		for range most {
			p.Make()
		}
		for range 1000 {
			id := d.id()
			if s := d.text(); d.below(2) == 0 {
				n := p.Put(id, s)
				if n < 0 || n > len(s) || n > 0 && (id < 0 || id >= most) {
					t.Fatalf("seed %d: Put(%d, %q) = %d", seed, id, s, n)
				}
				if n > 0 {
					in[id] += s[:n]
				}
			} else if s := p.Take(id, d.count()); s != "" {
				out[id] += s
			}
			if d.below(100) == 0 {
				p = wantBack(t, p)
			}
		}
		for id := range most {
			if out[id] += p.Take(id, 8); out[id] != in[id] || p.Len(id) != 0 {
				t.Fatalf("seed %d: into %d went %q, out of it came %q", seed, id, in[id], out[id])
			}
		}
	}
}

// The same calls answer the same, whatever other things were done to others.
func TestSameCallsAnswerTheSame(t *testing.T) {
	for seed := range 20 {
		d := dice(seed)
		p, q, other := fresh(t), fresh(t), fresh(t)
		for range 300 {
			c := d.call(4)
			d.call(4).on(other)
			if got, want := c.on(p), c.on(q); !got.same(want) {
				t.Fatalf("seed %d: %v answers %v and %v", seed, c, got, want)
			}
		}
	}
}
