package exo_test

import (
	"slices"
	"testing"

	"janus/api"
	"janus/exo"
)

// spoil writes over a list, and behind its end as far as it reaches.
func spoil(l []uint64) {
	l = l[:cap(l)]
	for i := range l {
		l[i] = 77
	}
}

// roomy is the call with other words behind its list's end.
func roomy(c call) call {
	return call{c.env, append(slices.Clone(c.words), words(1000)...)[:len(c.words)]}
}

// R4: words that were handed in are not kept.
func TestWordsHandedInAreNotKept(t *testing.T) {
	for _, s := range examples() {
		a, b := played(t), played(t)
		c := roomy(s.call)
		wantAnswer(t, a, step{c, s.want})
		wantAnswer(t, b, s)
		spoil(c.words)
		wantSame(t, s.call, look(a, usual()), look(b, usual()))
		for _, env := range usual().live {
			for range 3 {
				if got, want := recv(env).on(a), recv(env).on(b); !got.same(want) {
					t.Errorf("behind %v: Recv of %d answers %v, want %v", s.call, env, got, want)
				}
			}
		}
	}
}

// R4: words that were handed in are not changed, those behind the list's end neither.
func TestWordsHandedInAreNotChanged(t *testing.T) {
	for _, s := range examples() {
		for n := range len(s.words) + 2 {
			k, c := played(t), roomy(s.call)
			c.words = c.words[:n]
			want := slices.Clone(c.words[:cap(c.words)])
			got, _ := k.Raw(c.env, c.words)
			spoil(got)
			for _, x := range examples() {
				l, _ := k.Raw(x.env, x.words)
				spoil(l)
			}
			for _, env := range usual().live {
				l, _ := k.Raw(env, []uint64{12})
				spoil(l)
			}
			wantWords(t, "what was handed in", c.words[:cap(c.words)], want)
		}
	}
}

// outs is all that hands words out and changes nothing.
func outs(k *exo.Kernel) [][]uint64 {
	var l [][]uint64
	for range 2 {
		for _, c := range []call{load(1, 3), read(1, 1, 3), get(1, 1, 3), get(3, 1, 3), get(1, 1, 2)} {
			got, _ := k.Raw(c.env, c.words)
			l = append(l, got)
		}
		l = append(l, k.Sees(1), k.Sees(2), k.Sees(3), k.Frame(0), k.Frame(3), k.Block(3), k.Block(2), k.Block(7))
	}
	return l
}

// R4: what is handed out shares no memory with what is kept or with another answer.
func TestWordsHandedOutAreNewMemory(t *testing.T) {
	want := outs(played(t))
	for i := range want {
		k := played(t)
		first := outs(k)
		spoil(first[i])
		for j, l := range first {
			if j != i {
				wantWords(t, "another answer", l, want[j])
			}
		}
		for j, l := range outs(k) {
			wantWords(t, "what is kept", l, want[j])
		}
		wantSame(t, call{}, look(k, usual()), look(played(t), usual()))
	}
}

// The answers of calls that change something, too: slots, and messages.
func TestAnswersOfChangesAreNewMemory(t *testing.T) {
	for _, s := range examples() {
		a, b := played(t), played(t)
		got, _ := a.Raw(s.env, s.words)
		spoil(got)
		wantAnswer(t, b, s)
		wantSame(t, s.call, look(a, usual()), look(b, usual()))
	}
	k := play(t, usual(), send(1, 2, 5, 6).ok(), send(1, 2, 7, 8).ok(), send(3, 2, 9).ok())
	first, _ := k.Raw(2, []uint64{12})
	spoil(first)
	wantAnswer(t, k, recv(2).is(1, 7, 8))
	wantAnswer(t, k, recv(2).is(3, 9))
}

func TestLaterCallsLeaveWhatWasHandedOut(t *testing.T) {
	k := played(t)
	l := outs(k)
	message, _ := k.Raw(1, []uint64{12})
	for _, s := range []step{
		write(1, 1, 3, 1).ok(), store(1, 0, 2).ok(), put(1, 1, 3, words(8)).ok(), put(1, 1, 2, words(9)).ok(), send(3, 1, 4, 4).ok(), recv(1).is(3, 4, 4),
		alloc(1).is(3), write(1, 3, 0, 5).ok(), free(1, 1).ok(), revoke(1, 2).ok(), revokeBlocks(1, 1).ok(), alloc(3).is(1),
	} {
		wantAnswer(t, k, s)
	}
	for i, want := range outs(played(t)) {
		wantWords(t, "an earlier answer", l[i], want)
	}
	wantWords(t, "an earlier message", message, []uint64{2, 7, 8})
}

// R3: a list that is empty may be nil or not, and is the same.
func TestEmptyLists(t *testing.T) {
	for _, l := range [][]uint64{nil, {}, words(0)[:0]} {
		k := played(t)
		if got, e := k.Raw(1, l); len(got) != 0 || e != api.ErrArg {
			t.Errorf("Raw of no word answers %v, %d", got, e)
		}
	}
}
