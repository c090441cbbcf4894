package exoipc_test

import (
	"slices"
	"testing"

	"janus/api"
	"janus/exoipc"
)

// spoil writes over a list, and behind its end as far as it reaches.
func spoil[T int | uint64](l []T) {
	l = l[:cap(l)]
	for i := range l {
		l[i] = 77
	}
}

// roomy is so many words, 1, 2, .., with others behind the list's end.
func roomy(n int) []uint64 {
	l := make([]uint64, 3*api.MaxMessage)
	for i := range l {
		l[i] = uint64(i + 1)
	}
	return l[:n]
}

func wantRecv(t *testing.T, p *exoipc.Ipc, env, from int, words []uint64) {
	t.Helper()
	if f, w, ok := p.Recv(env); f != from || !slices.Equal(w, words) || !ok {
		t.Errorf("Recv(%d) = %d, %v, %v, want %d, %v, true", env, f, w, ok, from, words)
	}
}

func TestWordsHandedInAreNotKept(t *testing.T) {
	for n := range api.MaxMessage + 1 {
		p, words := fresh(t), roomy(n)
		want := slices.Clone(words)
		if p.Send(1, 0, words) != api.OK || p.Send(2, 0, words) != api.OK || p.Send(1, 3, words) != api.OK {
			t.Fatal("Send")
		}
		spoil(words)
		wantRecv(t, p, 0, 1, want)
		wantRecv(t, p, 0, 2, want)
		wantRecv(t, p, 3, 1, want)
	}
}

func TestWordsHandedInAreNotChanged(t *testing.T) {
	for n := range 2 * api.MaxMessage {
		p, words := fresh(t), roomy(n)
		want := slices.Clone(words[:cap(words)])
		for range api.MaxQueue + 1 {
			p.Send(1, 0, words)
		}
		p.Send(-1, 0, words)
		for range api.MaxQueue + 1 {
			_, w, _ := p.Recv(0)
			spoil(w)
		}
		p.Send(1, 0, words)
		p.Gone(1)
		if !slices.Equal(words[:cap(words)], want) {
			t.Errorf("%d words that were handed in are %v, were %v", n, words[:cap(words)], want)
		}
	}
}

// One list is sent by turns with other words in it, as one who has a single one would.
func TestOneListSentOverAndOver(t *testing.T) {
	p, words := fresh(t), make([]uint64, 2)
	for i := range api.MaxQueue {
		words[0], words[1] = uint64(i), uint64(10*i)
		p.Send(i, 0, words)
	}
	for i := range api.MaxQueue {
		wantRecv(t, p, 0, i, []uint64{uint64(i), uint64(10 * i)})
	}
}

func TestWordsHandedOutAreNewMemory(t *testing.T) {
	for n := range api.MaxMessage + 1 {
		p, words := fresh(t), roomy(n)
		for from := range api.MaxQueue {
			p.Send(from, 0, words)
		}
		_, one, _ := p.Recv(0)
		_, two, _ := p.Recv(0)
		spoil(one)
		if !slices.Equal(two, words) {
			t.Errorf("another answer is %v behind the change, want %v", two, words)
		}
		p.Send(5, 0, words)
		spoil(one)
		spoil(two)
		for _, from := range []int{2, 3, 5} {
			wantRecv(t, p, 0, from, words)
		}
	}
}

func TestSendersHandedOutAreNewMemory(t *testing.T) {
	p := fresh(t)
	for _, from := range []int{4, 2, 6} {
		p.Send(from, 0, nil)
	}
	want := []int{4, 2, 6}
	one, two := p.From(0), p.From(0)
	spoil(one)
	if !slices.Equal(two, want) {
		t.Errorf("another answer is %v behind the change, want %v", two, want)
	}
	if got := p.From(0); !slices.Equal(got, want) {
		t.Errorf("what is kept is %v behind the change, want %v", got, want)
	}
	for _, from := range want {
		wantRecv(t, p, 0, from, nil)
	}
}

func TestLaterCallsLeaveWhatWasHandedOut(t *testing.T) {
	p := fresh(t)
	p.Send(1, 0, []uint64{1, 2})
	p.Send(2, 0, []uint64{3, 4})
	p.Send(3, 0, []uint64{5, 6})
	senders := p.From(0)
	_, words, _ := p.Recv(0)
	for i := range 2 * api.MaxQueue {
		p.Send(4, 0, []uint64{8, 8, 8})
		p.Recv(0)
		if i == api.MaxQueue {
			p.Gone(4)
		}
	}
	p.Gone(0)
	for range api.MaxQueue {
		p.Send(9, 0, []uint64{9, 9})
	}
	if !slices.Equal(senders, []int{1, 2, 3}) || !slices.Equal(words, []uint64{1, 2}) {
		t.Errorf("From was %v, Recv's words were %v behind later calls", senders, words)
	}
}
