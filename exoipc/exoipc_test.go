package exoipc_test

import (
	"math"
	"testing"

	"janus/api"
	"janus/exoipc"
)

func TestExamples(t *testing.T) {
	play(t,
		send(1, 0, 5, 6).ok(),
		recv(0).got(1, 5, 6),
		recv(0).none(),
		send(1, 0).ok(),
		send(1, 0).ok(),
		send(1, 0).ok(),
		send(1, 0).ok(),
		send(1, 0).fails(api.ErrFull),
	)
}

func TestNewHasNoMessages(t *testing.T) {
	for env := range api.MaxEnvs {
		play(t, waiting(env).is(0), from(env).are(), recv(env).none(), gone(env).ok(), waiting(env).is(0), from(env).are(), recv(env).none())
	}
}

func TestNewMakesThemApart(t *testing.T) {
	p, q := fresh(t), fresh(t)
	for range api.MaxQueue {
		if x := send(1, 0, 5).on(p); x.e != api.OK {
			t.Fatalf("Send answers %v", x)
		}
	}
	wantSame(t, send(1, 0, 5), q, fresh(t))
}

func TestSendFromEachToEach(t *testing.T) {
	for a := range api.MaxEnvs {
		for b := range api.MaxEnvs {
			play(t,
				send(a, b, uint64(a), uint64(b)).ok(),
				waiting(b).is(1),
				from(b).are(a),
				recv((b+1)%api.MaxEnvs).none(),
				waiting((b+1)%api.MaxEnvs).is(0),
				recv(b).got(a, uint64(a), uint64(b)),
				waiting(b).is(0),
				from(b).are(),
				recv(b).none(),
			)
		}
	}
}

func TestSendFromWhatIsNone(t *testing.T) {
	for _, no := range noEnvs() {
		for _, words := range append(rows(), tooMany()...) {
			play(t,
				send(1, 3, 9).ok(),
				send(no, 3, words...).fails(api.ErrArg),
				send(no, 0, words...).fails(api.ErrArg),
				send(no, lastEnv, words...).fails(api.ErrArg),
				waiting(3).is(1),
				from(3).are(1),
			)
		}
	}
}

func TestSendToWhatIsNone(t *testing.T) {
	for _, no := range noEnvs() {
		for _, words := range append(rows(), tooMany()...) {
			play(t,
				send(1, 3, 9).ok(),
				send(3, no, words...).fails(api.ErrArg),
				send(0, no, words...).fails(api.ErrArg),
				send(lastEnv, no, words...).fails(api.ErrArg),
				waiting(no).is(0),
				from(no).are(),
				recv(no).none(),
				recv(3).got(1, 9),
			)
		}
	}
}

func TestSendWhereNeitherIsOne(t *testing.T) {
	for _, a := range noEnvs() {
		for _, b := range noEnvs() {
			play(t, send(a, b).fails(api.ErrArg), send(a, b, 1, 2).fails(api.ErrArg), send(a, b, make([]uint64, 9)...).fails(api.ErrArg), recv(b).none())
		}
	}
}

func TestSendOfWordsThatMayBe(t *testing.T) {
	for _, words := range rows() {
		for _, ends := range [][2]int{{0, 0}, {0, lastEnv}, {lastEnv, 0}, {lastEnv, lastEnv}, {4, 3}} {
			play(t,
				send(ends[0], ends[1], words...).ok(),
				waiting(ends[1]).is(1),
				recv(ends[1]).got(ends[0], words...),
				recv(ends[1]).none(),
			)
		}
	}
}

func TestSendOfTooManyWords(t *testing.T) {
	for _, words := range tooMany() {
		play(t,
			send(1, 0, words...).fails(api.ErrArg),
			waiting(0).is(0),
			send(0, 0, words...).fails(api.ErrArg),
			send(2, 0, 5).ok(),
			send(1, 0, words...).fails(api.ErrArg),
			from(0).are(2),
			recv(0).got(2, 5),
			recv(0).none(),
		)
	}
}

// How many words there are is told by a list's length, not by what lies behind its end.
func TestSendOfWordsWithMoreBehindTheEnd(t *testing.T) {
	for n := range api.MaxMessage + 1 {
		words := make([]uint64, n, 100)
		for i := range words[:100] {
			words[:100][i] = uint64(i + 1)
		}
		play(t, send(1, 0, words...).ok(), recv(0).got(1, words...), recv(0).none())
	}
}

func TestSendUntilFull(t *testing.T) {
	for _, to := range []int{0, 3, lastEnv} {
		play(t,
			waiting(to).is(0), from(to).are(),
			send(1, to, 10).ok(), waiting(to).is(1), from(to).are(1),
			send(2, to, 20).ok(), waiting(to).is(2), from(to).are(1, 2),
			send(1, to, 11).ok(), waiting(to).is(3), from(to).are(1, 2, 1),
			send(4, to, 40).ok(), waiting(to).is(4), from(to).are(1, 2, 1, 4),
			send(1, to, 12).fails(api.ErrFull), waiting(to).is(4), from(to).are(1, 2, 1, 4),
			send(5, to).fails(api.ErrFull),
			send(to, to, 0).fails(api.ErrFull),
			send(1, to, 12).fails(api.ErrFull),
			recv(to).got(1, 10), waiting(to).is(3), from(to).are(2, 1, 4),
			send(1, to, 12).ok(), waiting(to).is(4), from(to).are(2, 1, 4, 1),
			send(1, to, 13).fails(api.ErrFull),
			recv(to).got(2, 20), recv(to).got(1, 11), recv(to).got(4, 40),
			waiting(to).is(1), from(to).are(1),
			recv(to).got(1, 12), waiting(to).is(0), from(to).are(),
			recv(to).none(), recv(to).none(),
		)
	}
}

func TestArgIsAnsweredAheadOfFull(t *testing.T) {
	full := []step{send(1, 0, 1).ok(), send(1, 0, 2).ok(), send(1, 0, 3).ok(), send(1, 0, 4).ok(), send(1, 0, 5).fails(api.ErrFull)}
	for _, no := range noEnvs() {
		play(t, append(full[:5:5], send(no, 0).fails(api.ErrArg), send(no, 0, 5).fails(api.ErrArg), send(1, no, 5).fails(api.ErrArg), send(no, no).fails(api.ErrArg))...)
	}
	for _, words := range tooMany() {
		play(t, append(full[:5:5], send(1, 0, words...).fails(api.ErrArg), send(0, 0, words...).fails(api.ErrArg))...)
	}
	for _, words := range rows() {
		play(t, append(full[:5:5], send(0, 0, words...).fails(api.ErrFull), send(lastEnv, 0, words...).fails(api.ErrFull))...)
	}
}

func TestWhatWaitsForOneDoesNotCountForAnother(t *testing.T) {
	var steps []step
	for to := range api.MaxEnvs {
		for i := range api.MaxQueue {
			steps = append(steps, send(1, to, uint64(to), uint64(i)).ok())
		}
	}
	for to := range api.MaxEnvs {
		steps = append(steps, waiting(to).is(api.MaxQueue), from(to).are(1, 1, 1, 1), send(1, to).fails(api.ErrFull))
	}
	steps = append(steps, recv(3).got(1, 3, 0), waiting(3).is(3), waiting(2).is(4), waiting(4).is(4), send(1, 4).fails(api.ErrFull), send(1, 3, 9).ok())
	play(t, steps...)
}

func TestRecvOfOneSender(t *testing.T) {
	play(t,
		recv(0).none(),
		send(3, 0, 1).ok(),
		send(3, 0, 2, 2).ok(),
		send(3, 0).ok(),
		waiting(0).is(3), from(0).are(3, 3, 3),
		recv(0).got(3, 1), waiting(0).is(2), from(0).are(3, 3),
		recv(0).got(3, 2, 2), waiting(0).is(1), from(0).are(3),
		recv(0).got(3), waiting(0).is(0), from(0).are(),
		recv(0).none(),
		send(3, 0, 4).ok(),
		recv(0).got(3, 4),
		recv(0).none(),
	)
}

func TestRecvOfDifferentSenders(t *testing.T) {
	play(t,
		send(lastEnv, 5, 1).ok(),
		send(0, 5, 2).ok(),
		send(5, 5, 3).ok(),
		send(0, 5, 4).ok(),
		from(5).are(lastEnv, 0, 5, 0),
		recv(5).got(lastEnv, 1),
		recv(5).got(0, 2),
		send(7, 5, 5).ok(),
		from(5).are(5, 0, 7),
		recv(5).got(5, 3),
		recv(5).got(0, 4),
		recv(5).got(7, 5),
		recv(5).none(),
		waiting(5).is(0),
		recv(lastEnv).none(), recv(0).none(), recv(7).none(),
	)
}

// Words that are alike are two messages, not one.
func TestRecvOfMessagesThatAreAlike(t *testing.T) {
	play(t,
		send(1, 0, 5).ok(), send(1, 0, 5).ok(), send(1, 0).ok(), send(1, 0).ok(),
		recv(0).got(1, 5), recv(0).got(1, 5), recv(0).got(1), recv(0).got(1), recv(0).none(),
	)
}

// From 0 without words is a message too.
func TestRecvOfAMessageOfZeros(t *testing.T) {
	play(t, send(0, 0).ok(), waiting(0).is(1), from(0).are(0), recv(0).got(0), recv(0).none())
	play(t, send(0, 1, 0).ok(), waiting(1).is(1), from(1).are(0), recv(1).got(0, 0), recv(1).none())
}

func TestAskingOfWhatIsNone(t *testing.T) {
	for _, no := range noEnvs() {
		play(t,
			recv(no).none(), waiting(no).is(0), from(no).are(), gone(no).ok(),
			send(0, 0, 1).ok(), send(lastEnv, lastEnv, 2).ok(), send(3, 3, 3).ok(), send(3, 0, 4).ok(),
			recv(no).none(), waiting(no).is(0), from(no).are(), gone(no).ok(),
			from(0).are(0, 3),
			recv(0).got(0, 1), recv(0).got(3, 4), recv(lastEnv).got(lastEnv, 2), recv(3).got(3, 3),
		)
	}
}

func TestGoneOfOneForWhichMessagesWait(t *testing.T) {
	for _, env := range []int{0, 3, lastEnv} {
		play(t,
			send(1, env, 1).ok(), send(2, env, 2).ok(), send(1, env, 3).ok(), send(2, env, 4).ok(),
			send(1, 5, 6).ok(),
			send(1, env, 5).fails(api.ErrFull),
			gone(env).ok(),
			waiting(env).is(0), from(env).are(), recv(env).none(),
			waiting(5).is(1), recv(5).got(1, 6),
			send(2, env, 7).ok(), waiting(env).is(1), from(env).are(2),
			send(1, env, 8).ok(), send(1, env, 9).ok(), send(1, env, 10).ok(), send(1, env, 11).fails(api.ErrFull),
			recv(env).got(2, 7), recv(env).got(1, 8), recv(env).got(1, 9), recv(env).got(1, 10), recv(env).none(),
		)
	}
}

func TestGoneOfOneWhoseOwnWaitAmongOthers(t *testing.T) {
	for _, env := range []int{0, 3, lastEnv} {
		play(t,
			send(env, 5, 1).ok(), send(6, 5, 2).ok(), send(env, 5, 3).ok(), send(7, 5, 4).ok(),
			send(6, 8, 5).ok(), send(7, 8, 6).ok(), send(env, 8, 7).ok(), send(env, 8, 8).ok(),
			send(env, 9, 9).ok(), send(env, 9, 10).ok(), send(env, 9, 11).ok(), send(env, 9, 12).ok(),
			send(6, 9, 13).fails(api.ErrFull),
			gone(env).ok(),
			waiting(5).is(2), from(5).are(6, 7),
			waiting(8).is(2), from(8).are(6, 7),
			waiting(9).is(0), from(9).are(), recv(9).none(),
			send(6, 9, 13).ok(), from(9).are(6),
			send(env, 5, 14).ok(), from(5).are(6, 7, env),
			send(8, 5, 15).ok(), from(5).are(6, 7, env, 8),
			send(8, 5, 16).fails(api.ErrFull),
			recv(5).got(6, 2), recv(5).got(7, 4), recv(5).got(env, 14), recv(5).got(8, 15), recv(5).none(),
			recv(8).got(6, 5), recv(8).got(7, 6), recv(8).none(),
			recv(9).got(6, 13), recv(9).none(),
		)
	}
}

func TestGoneOfOneWithBoth(t *testing.T) {
	play(t,
		send(3, 3, 1).ok(), send(4, 3, 2).ok(), send(3, 4, 3).ok(), send(4, 4, 4).ok(), send(3, 4, 5).ok(), send(2, 4, 6).ok(),
		gone(3).ok(),
		waiting(3).is(0), from(3).are(), recv(3).none(),
		waiting(4).is(2), from(4).are(4, 2),
		gone(3).ok(),
		from(4).are(4, 2),
		recv(4).got(4, 4), recv(4).got(2, 6), recv(4).none(),
		send(3, 3, 7).ok(), send(3, 4, 8).ok(),
		recv(3).got(3, 7), recv(4).got(3, 8),
	)
}

// What one has sent to one that is gone is gone; what that one gets behind it is not.
func TestGoneOfReceiverAndThenSender(t *testing.T) {
	play(t,
		send(1, 2, 1).ok(), send(2, 1, 2).ok(),
		gone(2).ok(),
		recv(1).none(), recv(2).none(),
		send(1, 2, 3).ok(),
		gone(1).ok(),
		recv(2).none(),
		waiting(2).is(0),
	)
}

func TestGoneOfOneThatHasNone(t *testing.T) {
	for env := range api.MaxEnvs {
		a, b := (env+1)%api.MaxEnvs, (env+2)%api.MaxEnvs
		play(t,
			gone(env).ok(),
			send(a, b, 1).ok(), send(b, b, 2).ok(), send(b, a, 3).ok(),
			gone(env).ok(),
			waiting(env).is(0), from(env).are(),
			from(b).are(a, b), from(a).are(b),
			recv(b).got(a, 1), recv(b).got(b, 2), recv(b).none(), recv(a).got(b, 3), recv(a).none(),
		)
	}
}

// Behind a Recv what was taken is not there to be gone.
func TestGoneBehindRecv(t *testing.T) {
	play(t,
		send(1, 0, 1).ok(), send(2, 0, 2).ok(), send(1, 0, 3).ok(), send(2, 0, 4).ok(),
		recv(0).got(1, 1),
		gone(1).ok(),
		from(0).are(2, 2),
		recv(0).got(2, 2),
		gone(2).ok(),
		recv(0).none(),
	)
}

func TestNil(t *testing.T) {
	var p *exoipc.Ipc
	for _, env := range append(noEnvs(), 0, 3, lastEnv) {
		for _, words := range append(rows(), tooMany()...) {
			for _, c := range []call{send(env, 0, words...), send(0, env, words...), send(env, env, words...)} {
				if got := c.on(p); !got.same(answer{e: api.ErrArg}) {
					t.Fatalf("Send from %d to %d of %d words on nil answers %v, want ErrArg", c.from, c.env, len(words), got)
				}
			}
		}
		for _, c := range []call{recv(env), waiting(env), from(env), gone(env)} {
			if got := c.on(p); !got.same(answer{}) {
				t.Errorf("%v on nil answers %v, want zero values", c, got)
			}
		}
	}
}

// One that no call gave answers all calls, too.
func TestZeroValue(t *testing.T) {
	p := new(exoipc.Ipc)
	for _, s := range []step{recv(0).none(), waiting(0).is(0), from(0).are(), gone(0).ok(), send(1, 0, math.MaxUint64).ok(), recv(0).got(1, math.MaxUint64), recv(0).none()} {
		if got := s.on(p); !got.same(s.want) {
			t.Errorf("%v answers %v, want %v", s.call, got, s.want)
		}
	}
}
