package pipes

import "janus/api"

// place is where a byte may stand in a ring.
type place struct {
	used  bool
	value byte
}

// ring is places that go round: from eldest on those in use, behind them those that are free.
type ring struct {
	places [api.PipeSize]place
	eldest int
}

// at answers the place that is so many behind the eldest.
func (r *ring) at(i int) *place {
	return &r.places[(r.eldest+i)%len(r.places)]
}

// length answers how many places are in use.
func (r *ring) length() int {
	n := 0
	for n < len(r.places) && r.at(n).used {
		n++
	}
	return n
}

// put lays bytes behind those that are there, as many as there is room for, and answers how many.
func (r *ring) put(s string) int {
	there := r.length()
	n := min(len(s), len(r.places)-there)
	for i := range n {
		*r.at(there + i) = place{used: true, value: s[i]}
	}
	return n
}

// bytes answers what is there, the eldest first.
func (r *ring) bytes() []byte {
	b := make([]byte, r.length())
	for i := range b {
		b[i] = r.at(i).value
	}
	return b
}

// take frees the places of the eldest bytes, at most n, and answers these.
func (r *ring) take(n int) string {
	b := r.bytes()
	b = b[:min(max(n, 0), len(b))]
	for range b {
		*r.at(0) = place{}
		r.eldest = (r.eldest + 1) % len(r.places)
	}
	return string(b)
}

// empty frees all places.
func (r *ring) empty() {
	clear(r.places[:])
	r.eldest = 0
}
