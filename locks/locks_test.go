package locks_test

import (
	"slices"
	"testing"

	"janus/api"
	"janus/locks"
)

func TestExamples(t *testing.T) {
	play(t,
		ask(1).holds().so(1),
		ask(2).waits().so(1, 2),
		ask(2).waits().so(1, 2),
		leave(1).gives(2).so(2),
	)
}

func TestNewIsHeldByNobody(t *testing.T) {
	l := fresh(t)
	wantState(t, l, nobody, nil)
	wantState(t, l, nobody, nil)
}

func TestAskOfAFreeLock(t *testing.T) {
	for _, env := range append(great(), 0, 1, 2) {
		play(t, ask(env).holds().so(env))
	}
}

func TestAskOfOneThatHoldsIt(t *testing.T) {
	for _, env := range append(great(), 0, 1) {
		play(t,
			ask(env).holds().so(env),
			ask(env).holds().so(env),
			ask(5).waits().so(env, 5),
			ask(env).holds().so(env, 5),
			ask(3).waits().so(env, 5, 3),
			ask(env).holds().so(env, 5, 3),
			ask(env).holds().so(env, 5, 3),
			leave(env).gives(5).so(5, 3),
			leave(env).fails(api.ErrNone).so(5, 3),
		)
	}
}

func TestAskOfOneThatWaits(t *testing.T) {
	play(t,
		ask(4).holds().so(4),
		ask(2).waits().so(4, 2),
		ask(2).waits().so(4, 2),
		ask(9).waits().so(4, 2, 9),
		ask(0).waits().so(4, 2, 9, 0),
		ask(2).waits().so(4, 2, 9, 0),
		ask(9).waits().so(4, 2, 9, 0),
		ask(0).waits().so(4, 2, 9, 0),
		ask(0).waits().so(4, 2, 9, 0),
		leave(4).gives(2).so(2, 9, 0),
		ask(0).waits().so(2, 9, 0),
		ask(9).waits().so(2, 9, 0),
		leave(2).gives(9).so(9, 0),
		leave(9).gives(0).so(0),
		leave(0).gives(nobody).so(nobody),
	)
}

func TestAskOfOneThatDoesNeither(t *testing.T) {
	for _, env := range append(great(), 0) {
		play(t,
			ask(7).holds().so(7),
			ask(env).waits().so(7, env),
			ask(8).waits().so(7, env, 8),
			leave(7).gives(env).so(env, 8),
			ask(7).waits().so(env, 8, 7),
			leave(env).gives(8).so(8, 7),
			ask(env).waits().so(8, 7, env),
		)
	}
}

// 0 is an environment like all others, and who is named 0 is not nobody.
func TestAskOfZero(t *testing.T) {
	play(t,
		ask(0).holds().so(0),
		ask(0).holds().so(0),
		ask(1).waits().so(0, 1),
		leave(0).gives(1).so(1),
		ask(0).waits().so(1, 0),
		ask(0).waits().so(1, 0),
		leave(1).gives(0).so(0),
		ask(0).holds().so(0),
		leave(0).gives(nobody).so(nobody),
		leave(0).fails(api.ErrNone).so(nobody),
	)
}

func TestAskBelowZero(t *testing.T) {
	for _, no := range below() {
		play(t,
			ask(no).waits().so(nobody),
			ask(no).waits().so(nobody),
			ask(0).holds().so(0),
			ask(no).waits().so(0),
			ask(1).waits().so(0, 1),
			ask(no).waits().so(0, 1),
			leave(no).fails(api.ErrNone).so(0, 1),
			leave(0).gives(1).so(1),
			ask(no).waits().so(1),
			leave(1).gives(nobody).so(nobody),
			ask(no).waits().so(nobody),
			leave(no).fails(api.ErrNone).so(nobody),
		)
	}
}

func TestAskOfMany(t *testing.T) {
	const many = 2000
	l, want := fresh(t), []int{}
	for i := range many {
		env := (i*7919 + 1) % many // each once, and not rising
		if holds := l.Ask(env); holds != (i == 0) {
			t.Fatalf("Ask(%d) = %v", env, holds)
		}
		want = append(want, env)
	}
	wantState(t, l, want[0], want[1:])
	for _, env := range want[1:] {
		if l.Ask(env) {
			t.Fatalf("Ask(%d) again = true", env)
		}
	}
	wantState(t, l, want[0], want[1:])
	wantRound(t, l, want...)
}

func TestLeaveWithNobodyWaiting(t *testing.T) {
	for _, env := range append(great(), 0, 1) {
		play(t,
			ask(env).holds().so(env),
			leave(env).gives(nobody).so(nobody),
			leave(env).fails(api.ErrNone).so(nobody),
			ask(3).holds().so(3),
			leave(3).gives(nobody).so(nobody),
			ask(env).holds().so(env),
		)
	}
}

func TestLeaveWithOneWaiting(t *testing.T) {
	for _, env := range append(great()[1:], 0, 1) {
		play(t,
			ask(3).holds().so(3),
			ask(env).waits().so(3, env),
			leave(3).gives(env).so(env),
			ask(env).holds().so(env),
			leave(3).fails(api.ErrNone).so(env),
			leave(env).gives(nobody).so(nobody),
		)
	}
}

// The first that waits is the one that asked first, not the least and not the last.
func TestLeaveWithSeveralWaiting(t *testing.T) {
	play(t,
		ask(5).holds().so(5),
		ask(7).waits().so(5, 7),
		ask(1).waits().so(5, 7, 1),
		ask(9).waits().so(5, 7, 1, 9),
		ask(0).waits().so(5, 7, 1, 9, 0),
		leave(5).gives(7).so(7, 1, 9, 0),
		ask(7).holds().so(7, 1, 9, 0),
		leave(7).gives(1).so(1, 9, 0),
		ask(5).waits().so(1, 9, 0, 5),
		leave(1).gives(9).so(9, 0, 5),
		leave(9).gives(0).so(0, 5),
		leave(0).gives(5).so(5),
		leave(5).gives(nobody).so(nobody),
	)
}

func TestLeaveOfOneThatWaits(t *testing.T) {
	play(t,
		ask(4).holds().so(4),
		ask(2).waits().so(4, 2),
		leave(2).fails(api.ErrNone).so(4, 2),
		ask(6).waits().so(4, 2, 6),
		ask(0).waits().so(4, 2, 6, 0),
		leave(2).fails(api.ErrNone).so(4, 2, 6, 0),
		leave(6).fails(api.ErrNone).so(4, 2, 6, 0),
		leave(0).fails(api.ErrNone).so(4, 2, 6, 0),
		leave(4).gives(2).so(2, 6, 0),
		leave(2).gives(6).so(6, 0),
	)
}

func TestLeaveOfOneThatDoesNeither(t *testing.T) {
	for _, env := range append(great(), 0, 3) {
		play(t,
			leave(env).fails(api.ErrNone).so(nobody),
			ask(1).holds().so(1),
			leave(env).fails(api.ErrNone).so(1),
			ask(2).waits().so(1, 2),
			leave(env).fails(api.ErrNone).so(1, 2),
			leave(1).gives(2).so(2),
			leave(1).fails(api.ErrNone).so(2),
			leave(2).gives(nobody).so(nobody),
			leave(env).fails(api.ErrNone).so(nobody),
			leave(2).fails(api.ErrNone).so(nobody),
			ask(env).holds().so(env),
		)
	}
}

// Holder is -1 where nobody holds it: Leave of -1 is Leave of one that does not hold it all the same.
func TestLeaveBelowZero(t *testing.T) {
	for _, no := range below() {
		play(t,
			leave(no).fails(api.ErrNone).so(nobody),
			leave(no).fails(api.ErrNone).so(nobody),
			ask(1).holds().so(1),
			leave(no).fails(api.ErrNone).so(1),
			ask(0).waits().so(1, 0),
			leave(no).fails(api.ErrNone).so(1, 0),
			leave(1).gives(0).so(0),
			leave(0).gives(nobody).so(nobody),
			leave(no).fails(api.ErrNone).so(nobody),
			ask(2).holds().so(2),
		)
	}
}

func TestGoneOfOneThatHoldsIt(t *testing.T) {
	for _, env := range append(great(), 0, 1) {
		play(t,
			ask(env).holds().so(env),
			gone(env).done().so(nobody),
			gone(env).done().so(nobody),
			leave(env).fails(api.ErrNone).so(nobody),
			ask(env).holds().so(env),
			ask(8).waits().so(env, 8),
			gone(env).done().so(8),
			ask(env).waits().so(8, env),
			ask(6).waits().so(8, env, 6),
			ask(2).waits().so(8, env, 6, 2),
			gone(8).done().so(env, 6, 2),
			gone(env).done().so(6, 2),
			leave(env).fails(api.ErrNone).so(6, 2),
			gone(6).done().so(2),
			gone(2).done().so(nobody),
		)
	}
}

// Wherever one stood that is gone, the others keep their order, and it may ask again, behind all of them.
func TestGoneOfOneThatWaits(t *testing.T) {
	envs := []int{5, 7, 0, 9, 3}
	for i, env := range envs[1:] {
		left := slices.Delete(slices.Clone(envs), i+1, i+2)
		l := fresh(t)
		for _, e := range envs {
			l.Ask(e)
		}
		l.Gone(env)
		wantState(t, l, left[0], left[1:])
		if n, e := l.Leave(env); n != 0 || e != api.ErrNone {
			t.Errorf("Leave(%d) of one that is gone = %d, %v", env, n, e)
		}
		l.Gone(env)
		wantState(t, l, left[0], left[1:])
		if l.Ask(env) {
			t.Errorf("Ask(%d) = true behind its Gone", env)
		}
		wantState(t, l, left[0], append(left[1:], env))
		wantRound(t, l, append(left, env)...)
	}
}

func TestGoneOfAllThatWait(t *testing.T) {
	play(t,
		ask(1).holds().so(1),
		ask(2).waits().so(1, 2),
		ask(3).waits().so(1, 2, 3),
		ask(4).waits().so(1, 2, 3, 4),
		gone(3).done().so(1, 2, 4),
		gone(4).done().so(1, 2),
		gone(2).done().so(1),
		leave(1).gives(nobody).so(nobody),
	)
}

// One that was waiting, was gone and waits again is at its second place alone.
func TestGoneAndBackAgain(t *testing.T) {
	play(t,
		ask(1).holds().so(1),
		ask(2).waits().so(1, 2),
		ask(3).waits().so(1, 2, 3),
		gone(2).done().so(1, 3),
		ask(2).waits().so(1, 3, 2),
		gone(1).done().so(3, 2),
		ask(1).waits().so(3, 2, 1),
		gone(2).done().so(3, 1),
		gone(2).done().so(3, 1),
		ask(2).waits().so(3, 1, 2),
		leave(3).gives(1).so(1, 2),
		leave(1).gives(2).so(2),
		leave(2).gives(nobody).so(nobody),
		ask(2).holds().so(2),
	)
}

func TestGoneOfOneThatDoesNeither(t *testing.T) {
	for _, env := range append(append(great(), below()...), 0, 3) {
		play(t,
			gone(env).done().so(nobody),
			gone(env).done().so(nobody),
			ask(1).holds().so(1),
			gone(env).done().so(1),
			ask(5).waits().so(1, 5),
			ask(2).waits().so(1, 5, 2),
			gone(env).done().so(1, 5, 2),
			leave(1).gives(5).so(5, 2),
			gone(1).done().so(5, 2),
			leave(5).gives(2).so(2),
			leave(2).gives(nobody).so(nobody),
			gone(env).done().so(nobody),
			gone(2).done().so(nobody),
			ask(4).holds().so(4),
		)
	}
}

func TestTwoLocksAreApart(t *testing.T) {
	a, b := fresh(t), fresh(t)
	if !a.Ask(1) || a.Ask(2) || !b.Ask(2) || b.Ask(1) || b.Ask(3) {
		t.Fatal("Ask")
	}
	wantState(t, a, 1, []int{2})
	wantState(t, b, 2, []int{1, 3})
	b.Gone(1)
	b.Leave(2)
	wantState(t, a, 1, []int{2})
	wantState(t, b, 3, nil)
	a.Leave(1)
	a.Gone(2)
	wantState(t, a, nobody, nil)
	wantState(t, b, 3, nil)
	wantState(t, fresh(t), nobody, nil)
}

func TestNil(t *testing.T) {
	var l *locks.Lock
	for _, env := range append(append(great(), below()...), 0, 1) {
		if l.Ask(env) {
			t.Errorf("Ask(%d) = true", env)
		}
		if n, e := l.Leave(env); n != 0 || e != api.ErrNone {
			t.Errorf("Leave(%d) = %d, %v", env, n, e)
		}
		l.Gone(env)
		wantState(t, l, nobody, nil)
	}
}

// spoil writes over a list, and behind its end as far as it reaches.
func spoil(l []int) {
	l = l[:cap(l)]
	for i := range l {
		l[i] = 77
	}
}

func TestQueueHandedOutIsNewMemory(t *testing.T) {
	for n := range 20 {
		l := fresh(t)
		envs := upTo(n + 1)
		for _, env := range envs {
			l.Ask(env)
		}
		one, two := l.Queue(), l.Queue()
		spoil(one)
		if !slices.Equal(two, envs[1:]) {
			t.Errorf("another answer is %v behind the change, want %v", two, envs[1:])
		}
		spoil(two)
		wantState(t, l, 0, envs[1:])
		l.Ask(100)
		spoil(one)
		_ = append(one, 88, 88)
		wantRound(t, l, append(envs, 100)...)
	}
}

func TestLaterCallsLeaveWhatWasHandedOut(t *testing.T) {
	l := fresh(t)
	for _, env := range []int{4, 2, 6, 1} {
		l.Ask(env)
	}
	queue := l.Queue()
	l.Leave(4)
	l.Gone(6)
	for env := range 40 {
		l.Ask(env)
	}
	l.Gone(2)
	l.Gone(1)
	for range 10 {
		l.Leave(l.Holder())
	}
	if !slices.Equal(queue, []int{2, 6, 1}) {
		t.Errorf("Queue was %v behind later calls", queue)
	}
}
