package exoenv_test

import (
	"math"
	"slices"
	"testing"

	"janus/api"
	"janus/exoenv"
)

func TestExamples(t *testing.T) {
	play(t, 2,
		create(3).ok(),
		slice(1, 3).ok(),
		pick(5).is(3),
		pick(0).is(nobody),
		kill(3).ok(),
		pick(1).is(nobody),
	)
}

func TestNewMakesSlicesOfNobody(t *testing.T) {
	for _, n := range []int{1, 2, 3, 5, 63, 64} {
		play(t, n,
			vector().are(owners(n, nobody)...),
			live().are(),
			pick(0).is(nobody),
			pick(n-1).is(nobody),
			pick(n).is(nobody),
			pick(-1).is(nobody),
		)
	}
}

func TestNewOfWhatMayNotBe(t *testing.T) {
	for _, n := range []int{0, -1, -2, -64, 65, 66, 128, 1 << 20, 1 << 32, 1<<32 + 1, 1 << 62, -1 << 40, -1<<32 + 1, math.MinInt, math.MinInt + 1, math.MaxInt} {
		if e := exoenv.New(n); e != nil {
			t.Errorf("New(%d) is not nil", n)
		}
	}
}

func TestNewMakesThemApart(t *testing.T) {
	e, f := fresh(t, 2), fresh(t, 2)
	for _, c := range []call{create(3), slice(0, 3), fault(3, 7)} {
		if x := c.on(e); x.e != api.OK {
			t.Fatalf("%v answers %v", c, x)
		}
	}
	wantSame(t, fault(3, 7), f, fresh(t, 2))
}

func TestCreate(t *testing.T) {
	play(t, 2,
		live().are(),
		create(0).ok(),
		live().are(0),
		create(lastEnv).ok(),
		live().are(0, lastEnv),
		create(4).ok(),
		live().are(0, 4, lastEnv),
		vector().are(nobody, nobody),
		lives(0).yes(),
		lives(4).yes(),
		lives(lastEnv).yes(),
		lives(3).no(),
		lives(5).no(),
	)
}

func TestCreateOfOneThatLives(t *testing.T) {
	play(t, 2,
		create(3).ok(),
		create(3).fails(api.ErrFull),
		slice(1, 3).ok(),
		fault(3, 9).ok(),
		create(3).fails(api.ErrFull),
		vector().are(nobody, 3),
		live().are(3),
		upcall(3).told(9),
		create(3).fails(api.ErrFull),
	)
}

func TestCreateBehindKill(t *testing.T) {
	play(t, 2,
		create(3).ok(),
		slice(0, 3).ok(),
		fault(3, 9).ok(),
		kill(3).ok(),
		create(3).ok(),
		create(3).fails(api.ErrFull),
		live().are(3),
		vector().are(nobody, nobody),
		upcall(3).none(),
		slice(1, 3).ok(),
		vector().are(nobody, 3),
		fault(3, 8).ok(),
		upcall(3).told(8),
	)
}

func TestCreateOfWhatIsNone(t *testing.T) {
	for _, env := range append(noEnvs(), nobody) {
		play(t, 1,
			create(env).fails(api.ErrArg),
			create(3).ok(),
			create(env).fails(api.ErrArg),
			lives(env).no(),
			live().are(3),
		)
	}
}

func TestLiveIsRising(t *testing.T) {
	for _, order := range [][]int{{0, 1, 2, 3, 4, 5, 6, 7, 8, 9, 10, 11}, {11, 10, 9, 8, 7, 6, 5, 4, 3, 2, 1, 0}, {5, 0, 11, 6, 1, 10, 7, 2, 9, 8, 3, 4}} {
		e := fresh(t, 3)
		var want []int
		for _, env := range order {
			create(env).on(e)
			want = append(want, env)
			slices.Sort(want)
			if got := e.Live(); !slices.Equal(got, want) {
				t.Fatalf("Live() = %v, want %v", got, want)
			}
		}
		for _, env := range order {
			kill(env).on(e)
			want = slices.DeleteFunc(want, func(x int) bool { return x == env })
			if got := e.Live(); !slices.Equal(got, want) {
				t.Fatalf("Live() = %v, want %v", got, want)
			}
		}
	}
}

func TestIsOfEachAlone(t *testing.T) {
	for one := range api.MaxEnvs {
		e := fresh(t, 1)
		create(one).on(e)
		for env := range api.MaxEnvs {
			if got := e.Is(env); got != (env == one) {
				t.Errorf("Is(%d) = %v where %d lives", env, got, one)
			}
		}
		for _, env := range append(noEnvs(), nobody) {
			if e.Is(env) {
				t.Errorf("Is(%d) where %d lives", env, one)
			}
		}
	}
}

func TestKillOfOneThatHasSlices(t *testing.T) {
	play(t, 6,
		create(0).ok(),
		create(3).ok(),
		create(lastEnv).ok(),
		slice(0, 3).ok(),
		slice(1, 0).ok(),
		slice(2, 3).ok(),
		slice(3, lastEnv).ok(),
		slice(5, 3).ok(),
		vector().are(3, 0, 3, lastEnv, nobody, 3),
		live().are(0, 3, lastEnv),
		kill(3).ok(),
		vector().are(nobody, 0, nobody, lastEnv, nobody, nobody),
		live().are(0, lastEnv),
		lives(3).no(),
		lives(0).yes(),
		kill(0).ok(),
		vector().are(nobody, nobody, nobody, lastEnv, nobody, nobody),
		kill(lastEnv).ok(),
		vector().are(owners(6, nobody)...),
		live().are(),
	)
}

func TestKillTakesEverySlice(t *testing.T) {
	for n := 1; n <= most; n++ {
		e := fresh(t, n)
		create(3).on(e)
		for slot := range n {
			slice(slot, 3).on(e)
		}
		if got := e.Vector(); !slices.Equal(got, owners(n, 3)) {
			t.Fatalf("Vector() = %v of %d", got, n)
		}
		kill(3).on(e)
		if got := e.Vector(); !slices.Equal(got, owners(n, nobody)) {
			t.Fatalf("Vector() = %v of %d", got, n)
		}
	}
}

func TestKillOfOneThatHasNoSlices(t *testing.T) {
	play(t, 3,
		create(3).ok(),
		create(4).ok(),
		slice(0, 4).ok(),
		slice(1, 3).ok(),
		slice(1, nobody).ok(),
		kill(3).ok(),
		vector().are(4, nobody, nobody),
		live().are(4),
	)
}

func TestKillOfOneWhoseUpcallWaits(t *testing.T) {
	play(t, 1,
		create(3).ok(),
		create(4).ok(),
		fault(3, 9).ok(),
		fault(4, 8).ok(),
		kill(3).ok(),
		upcall(3).none(),
		fault(3, 9).fails(api.ErrNone),
		create(3).ok(),
		upcall(3).none(),
		fault(3, 7).ok(),
		upcall(3).told(7),
		upcall(4).told(8),
	)
}

func TestKillOfOneThatDoesNotLive(t *testing.T) {
	play(t, 2,
		kill(3).fails(api.ErrNone),
		create(4).ok(),
		slice(0, 4).ok(),
		fault(4, 5).ok(),
		kill(3).fails(api.ErrNone),
		create(3).ok(),
		kill(3).ok(),
		kill(3).fails(api.ErrNone),
		vector().are(4, nobody),
		live().are(4),
		upcall(4).told(5),
	)
	for _, env := range append(noEnvs(), nobody) {
		play(t, 2,
			create(3).ok(),
			slice(1, 3).ok(),
			kill(env).fails(api.ErrNone),
			vector().are(nobody, 3),
			live().are(3),
		)
	}
}

func TestSlice(t *testing.T) {
	play(t, 3,
		create(0).ok(),
		create(lastEnv).ok(),
		slice(0, 0).ok(),
		vector().are(0, nobody, nobody),
		slice(2, 0).ok(),
		vector().are(0, nobody, 0),
		slice(2, lastEnv).ok(),
		vector().are(0, nobody, lastEnv),
		slice(2, lastEnv).ok(),
		vector().are(0, nobody, lastEnv),
		slice(0, nobody).ok(),
		vector().are(nobody, nobody, lastEnv),
		slice(1, nobody).ok(),
		vector().are(nobody, nobody, lastEnv),
		slice(2, nobody).ok(),
		vector().are(nobody, nobody, nobody),
		live().are(0, lastEnv),
	)
}

func TestSliceOfEveryVector(t *testing.T) {
	for n := 1; n <= most; n++ {
		for slot := range n {
			e := fresh(t, n)
			create(3).on(e)
			if x := slice(slot, 3).on(e); x.e != api.OK {
				t.Fatalf("Slice(%d, 3) of %d answers %v", slot, n, x)
			}
			want := owners(n, nobody)
			want[slot] = 3
			if got := e.Vector(); !slices.Equal(got, want) {
				t.Fatalf("Vector() = %v, want %v", got, want)
			}
		}
	}
}

func TestSliceThatIsNone(t *testing.T) {
	for _, n := range []int{1, 2, 63, 64} {
		for _, slot := range noSlots(n) {
			play(t, n,
				create(3).ok(),
				slice(0, 3).ok(),
				slice(n-1, 3).ok(),
				slice(slot, 3).fails(api.ErrArg),
				slice(slot, nobody).fails(api.ErrArg),
				slice(slot, 4).fails(api.ErrArg),
				slice(slot, -2).fails(api.ErrArg),
				slice(slot, api.MaxEnvs).fails(api.ErrArg),
			)
		}
	}
}

func TestSliceToOneThatDoesNotLive(t *testing.T) {
	for _, env := range append(noEnvs(), 0, 4, lastEnv) {
		play(t, 2,
			slice(0, env).fails(api.ErrNone),
			create(3).ok(),
			slice(1, 3).ok(),
			slice(0, env).fails(api.ErrNone),
			slice(1, env).fails(api.ErrNone),
			vector().are(nobody, 3),
		)
	}
	play(t, 2,
		create(3).ok(),
		create(4).ok(),
		slice(0, 3).ok(),
		slice(1, 4).ok(),
		kill(3).ok(),
		slice(0, 3).fails(api.ErrNone),
		slice(1, 3).fails(api.ErrNone),
		vector().are(nobody, 4),
	)
}

func TestPick(t *testing.T) {
	play(t, 3,
		create(0).ok(),
		create(7).ok(),
		slice(0, 7).ok(),
		slice(2, 0).ok(),
		pick(0).is(7), pick(1).is(nobody), pick(2).is(0),
		pick(3).is(7), pick(4).is(nobody), pick(5).is(0),
		pick(-1).is(0), pick(-2).is(nobody), pick(-3).is(7),
		pick(-4).is(0), pick(-5).is(nobody), pick(-6).is(7),
		pick(3<<40).is(7), pick(3<<40+2).is(0), pick(-3<<40).is(7), pick(-3<<40-1).is(0),
	)
}

// From the last slice on backwards they are of environment 0, 1, 2, ..; those that are left are nobody's.
func TestPickGoesRound(t *testing.T) {
	for n := 1; n <= most; n++ {
		e, want := fresh(t, n), owners(n, nobody)
		for env := range min(n, api.MaxEnvs) {
			create(env).on(e)
			slice(n-1-env, env).on(e)
			want[n-1-env] = env
		}
		for turn := -3; turn <= 3; turn++ {
			for slot := range n {
				if got := e.Pick(turn*n + slot); got != want[slot] {
					t.Fatalf("Pick(%d) of %d = %d, want %d", turn*n+slot, n, got, want[slot])
				}
			}
		}
	}
}

func TestPickAtTheEndsOfAnInt(t *testing.T) {
	for n := 1; n <= most; n++ {
		top := math.MaxInt % n
		// The least int lies as far below 0 as the greatest lies above it, and one more.
		bottom := (n - (top+1)%n) % n
		for at, slot := range map[int]int{math.MaxInt: top, math.MinInt: bottom} {
			e := fresh(t, n)
			create(5).on(e)
			slice(slot, 5).on(e)
			if got := e.Pick(at); got != 5 {
				t.Errorf("Pick(%d) of %d = %d, want slice %d", at, n, got, slot)
			}
			slice(slot, nobody).on(e)
			if got := e.Pick(at); got != nobody {
				t.Errorf("Pick(%d) of %d = %d, want nobody", at, n, got)
			}
		}
	}
}

func TestFault(t *testing.T) {
	for _, addr := range addrs() {
		for _, env := range []int{0, 3, lastEnv} {
			play(t, 1,
				create(env).ok(),
				upcall(env).none(),
				fault(env, addr).ok(),
				fault(env, addr).fails(api.ErrFull),
				fault(env, 5).fails(api.ErrFull),
				upcall(env).told(addr),
				upcall(env).none(),
				fault(env, 6).ok(),
				fault(env, addr).fails(api.ErrFull),
				upcall(env).told(6),
				upcall(env).none(),
				live().are(env),
				vector().are(nobody),
			)
		}
	}
}

func TestFaultsOfEachApart(t *testing.T) {
	play(t, 1,
		create(0).ok(),
		create(1).ok(),
		create(lastEnv).ok(),
		fault(0, 10).ok(),
		fault(lastEnv, 30).ok(),
		upcall(1).none(),
		fault(1, 20).ok(),
		upcall(0).told(10),
		fault(1, 21).fails(api.ErrFull),
		fault(0, 11).ok(),
		upcall(lastEnv).told(30),
		upcall(1).told(20),
		upcall(0).told(11),
	)
}

func TestFaultOfOneThatDoesNotLive(t *testing.T) {
	for _, env := range append(noEnvs(), nobody, 0, 4, lastEnv) {
		for _, addr := range addrs() {
			play(t, 1,
				fault(env, addr).fails(api.ErrNone),
				create(3).ok(),
				fault(3, 1).ok(),
				fault(env, addr).fails(api.ErrNone),
				upcall(env).none(),
				upcall(3).told(1),
			)
		}
	}
	play(t, 1,
		fault(3, 9).fails(api.ErrNone),
		create(3).ok(),
		upcall(3).none(),
		fault(3, 8).ok(),
		kill(3).ok(),
		fault(3, 7).fails(api.ErrNone),
		create(3).ok(),
		upcall(3).none(),
	)
}

func TestUpcallOfOneThatDoesNotLive(t *testing.T) {
	for _, env := range append(noEnvs(), nobody, 0, 4, lastEnv) {
		play(t, 1,
			upcall(env).none(),
			create(3).ok(),
			fault(3, 9).ok(),
			upcall(env).none(),
			upcall(3).told(9),
		)
	}
}

// A slice and an upcall have nothing to do with each other.
func TestSliceLeavesTheUpcall(t *testing.T) {
	play(t, 2,
		create(3).ok(),
		create(4).ok(),
		slice(0, 3).ok(),
		fault(3, 9).ok(),
		vector().are(3, nobody),
		slice(0, 4).ok(),
		pick(0).is(4),
		slice(1, nobody).ok(),
		upcall(3).told(9),
		vector().are(4, nobody),
	)
}

func TestAnswersAreNewMemory(t *testing.T) {
	e := play(t, 3, create(1).ok(), create(2).ok(), create(5).ok(), slice(0, 5).ok(), slice(2, 1).ok())
	for name, ask := range map[string]func() []int{"Live": e.Live, "Vector": e.Vector} {
		one, two := ask(), ask()
		want := slices.Clone(one)
		for i := range one {
			one[i] = 77
		}
		spoil(one)
		if !slices.Equal(two, want) {
			t.Errorf("%s: another answer is %v behind the change, want %v", name, two, want)
		}
		if got := ask(); !slices.Equal(got, want) {
			t.Errorf("%s: what is kept is %v behind the change, want %v", name, got, want)
		}
	}
	if l, v := e.Live(), e.Vector(); !slices.Equal(l, []int{1, 2, 5}) || !slices.Equal(v, []int{5, nobody, 1}) {
		t.Errorf("Live() = %v, Vector() = %v", l, v)
	}
}

// spoil writes behind a list's end.
func spoil(l []int) {
	for i := len(l); i < cap(l); i++ {
		l[:cap(l)][i] = 77
	}
}

func TestLaterCallsLeaveWhatWasHandedOut(t *testing.T) {
	e := play(t, 2, create(1).ok(), slice(0, 1).ok())
	l, v := e.Live(), e.Vector()
	create(0).on(e)
	slice(1, 0).on(e)
	kill(1).on(e)
	if !slices.Equal(l, []int{1}) || !slices.Equal(v, []int{1, nobody}) {
		t.Errorf("Live() was %v, Vector() was %v behind later calls", l, v)
	}
}

func TestNil(t *testing.T) {
	var e *exoenv.Envs
	ints := append(noEnvs(), nobody, 0, 3, lastEnv)
	for _, env := range ints {
		for _, c := range []call{create(env), kill(env), fault(env, 0), fault(env, math.MaxUint64), slice(0, env), slice(env, 3), slice(env, nobody)} {
			if got := c.on(e); !got.same(answer{e: api.ErrArg}) {
				t.Errorf("%v on nil answers %v, want ErrArg", c, got)
			}
		}
		for _, c := range []call{lives(env), upcall(env)} {
			if got := c.on(e); !got.same(answer{}) {
				t.Errorf("%v on nil answers %v, want zero values", c, got)
			}
		}
		if got := e.Pick(env); got != nobody {
			t.Errorf("Pick(%d) on nil = %d", env, got)
		}
	}
	if l, v := e.Live(), e.Vector(); len(l) != 0 || len(v) != 0 {
		t.Errorf("on nil Live() = %v, Vector() = %v", l, v)
	}
}

// One that no call gave has no slices; its calls still end.
func TestZeroValueHasNoSlices(t *testing.T) {
	e := new(exoenv.Envs)
	for _, s := range []step{pick(0).is(nobody), pick(-1).is(nobody), pick(math.MinInt).is(nobody), vector().are(), slice(0, nobody).fails(api.ErrArg), create(3).ok(), slice(0, 3).fails(api.ErrArg), fault(3, 9).ok(), upcall(3).told(9), kill(3).ok(), live().are()} {
		if got := s.on(e); !got.same(s.want) {
			t.Errorf("%v answers %v, want %v", s.call, got, s.want)
		}
	}
}
