package uspec_test

import (
	"fmt"
	"math"
	"strings"
	"testing"

	"janus/api"
	"janus/uspec"
)

func wantNothing(t *testing.T, u *uspec.Spec, pid, fuel int) {
	t.Helper()
	if got, told := u.Step(pid, fuel); told || got != (api.Event{}) {
		t.Fatalf("Step(%d, %d) = %v, %v", pid, fuel, got, told)
	}
}

// 23.2: nobody runs but who lives.
func TestStepOfNobody(t *testing.T) {
	u := made(t, runs(t, "fork drop yield drop 0 end"))
	nobody := func(pids ...int) {
		t.Helper()
		before := looked(u)
		for _, pid := range append(noPids(), pids...) {
			for _, fuel := range []int{math.MinInt, -1, 0, 1, 200, math.MaxInt} {
				wantNothing(t, u, pid, fuel)
			}
		}
		if !looked(u).same(before) {
			t.Error("Steps of nobody changed something")
		}
	}
	nobody(2, 3, 4, 5, 6, 7, 8)
	wantSteps(t, u, forks(1, 2))
	nobody(3, 4, 5, 6, 7, 8)
	wantSteps(t, u, yields(2), exits(2, 0))
	nobody(2, 3, 4, 5, 6, 7, 8) // 2 is a zombie
	wantSteps(t, u, yields(1), exits(1, 0))
	nobody(1, 2, 3, 4, 5, 6, 7, 8)
	wantLive(t, u)
}

// 23.2: fuel below 0, and 0: nothing is begun, not even a call or what is behind a fault.
func TestNoFuel(t *testing.T) {
	for _, s := range []string{"yield drop 0 end", "200 load end", "0 0 div end"} {
		u, twin := made(t, runs(t, s)), made(t, runs(t, s))
		for range 3 {
			for _, fuel := range []int{math.MinInt, math.MinInt32, -201, -200, -2, -1, 0} {
				wantNothing(t, u, 1, fuel)
			}
			got, told := u.Step(1, 1)
			want, wantTold := twin.Step(1, 1)
			if got != want || told != wantTold {
				t.Errorf("%q: %v, %v, want %v, %v", s, got, told, want, wantTold)
			}
		}
	}
}

// counts is a program that does so many Steps and then calls: a loop of 5, and some behind it.
func counts(steps int) string {
	rounds := (steps - 3) / 5
	return fmt.Sprintf("%d loop: dup zero:out 1 sub jump:loop out: %s", rounds, strings.Repeat("dup drop ", (steps-3-5*rounds)/2)+strings.Repeat("not ", (steps-3-5*rounds)%2))
}

// 23.2: a Step is of 200 instructions at most; those that are done stay done, and a call that is not reached is not done.
func TestFuelRunsOut(t *testing.T) {
	for _, steps := range []int{4, 8, 13, 198, 199, 200, 201, 202, 399, 400, 401, 1000, 1203} {
		cfg := runs(t, counts(steps)+" 1 0 0 write drop drop"+idle)
		for _, x := range []struct{ fuel, each int }{{1, 1}, {2, 2}, {3, 3}, {7, 7}, {199, 199}, {200, 200}, {201, 200}, {256, 200}, {400, 200}, {1 << 32, 200}, {math.MaxInt, 200}} {
			u := made(t, cfg)
			for range (steps + 3) / x.each {
				wantNothing(t, u, 1, x.fuel)
			}
			if got, told := u.Step(1, x.fuel); !told || got != writes(1, "") {
				t.Errorf("%d Steps, %d each: %v, %v", steps, x.fuel, got, told)
			}
		}
	}
}

// 23.2: what fuel did stays, word by word and number by number.
func TestWhatFuelDidStays(t *testing.T) {
	cfg := runs(t, "7 65 0 store 66 1 store 1 0 2 write drop"+show+idle)
	u := made(t, cfg)
	for range 10 {
		wantNothing(t, u, 1, 1)
		wantOut(t, u, "")
	}
	wantSteps(t, u, writes(1, "AB"), shown(1, 7), yields(1))
	wantOut(t, u, "AB")
}

// 23.2: a call that waits costs no more than a Step, and a loop that calls nothing has no end.
func TestLoopWithoutACall(t *testing.T) {
	u := made(t, runs(t, "fork zero:child loop: jump:loop child: "+idle))
	wantSteps(t, u, forks(1, 2))
	for range 1000 {
		wantSteps(t, u, nothing(1), yields(2), nothing(1))
	}
	wantLive(t, u, 1, 2)
}

// faults are all ways in which a program that may be run faults.
func faults() []string {
	return []string{
		"1 0 div drop", "1 0 mod drop", "0 0 div drop", "0 0 mod drop",
		"128 load drop", "129 load drop", "255 load drop", "256 load drop", "4294967296 load drop", "18446744073709551615 load drop",
		"1 128 store", "1 200 store", "1 4294967296 store", "1 9223372036854775808 store", "1 18446744073709551615 store",
	}
}

// 23.2: a program that faults is killed by signal 11, whatever its handlers are, and a signal that is pending does not come ahead.
func TestFaults(t *testing.T) {
	for _, s := range faults() {
		for _, ahead := range []string{"", "11 0 signal drop ", "11 18446744073709551614 signal drop ", "1 10 kill drop "} {
			u := made(t, runs(t, ahead+s+" 0 end"))
			if ahead != "" {
				if x, told := u.Step(1, 200); !told || x.Ret.Err != api.OK {
					t.Fatalf("%v, %v", x, told)
				}
			}
			wantSteps(t, u, dies(1, 11), nothing(1))
			wantLive(t, u)
		}
		plays(t, runs(t, s+" 0 end"), dies(1, 11))
	}
}

// 23.2: a Load and a Store of the last word, and a division of 0, do not fault.
func TestNoFaults(t *testing.T) {
	plays(t, runs(t, "77 127 store 127 load"+show+"0 5 div"+show+"0 5 mod"+show+"0 127 load drop end"), shown(1, 77), shown(1, 0), shown(1, 0), exits(1, 0))
}

// 23.2: the parent of who faults gets 128 and 11, and its descriptors are closed.
func TestStatusOfAFault(t *testing.T) {
	cfg := runs(t, "0 pipe drop fork zero:child 1 load close drop 0 load 10 1 read"+show+"20 wait"+show+"20 load"+show+"0 end child: 0 0 div end")
	u := plays(t, cfg, called(1, api.Call{N: api.SysPipe}, api.Ret{Two: [2]int{3, 4}}), forks(1, 2),
		does(1, api.Call{N: api.SysClose, A: 4}, 0),
		nothing(1), // 2 may write still
		dies(2, 11),
		does(1, api.Call{N: api.SysRead, A: 3, B: 10, C: 1}, 0), shown(1, 0),
		called(1, api.Call{N: api.SysWait, A: 20}, api.Ret{N: 2, Two: [2]int{139}}), shown(1, 2), shown(1, 139), exits(1, 0))
	wantLive(t, u)
}

// 23.2: a signal that is handled comes ahead of the call: the machine is at the handler, on an empty stack, and nothing of the call is done.
func TestHandlerAheadOfACall(t *testing.T) {
	s := "1 zero:h 10 @h signal drop 1 10 kill drop 5 6 1 0 3 write" + show + show + show + "0 end h: 65 0 store 66 1 store 67 2 store 1 3 4 write drop sigret drop jump:h"
	cfg := runs(t, s)
	h := placeOf(t, s, "h")
	u := plays(t, cfg, does(1, api.Call{N: api.SysSignal, A: 10, B: h}, 0), does(1, api.Call{N: api.SysKill, A: 1, B: 10}, 0),
		comes(1, 10), writes(1, "\x00\x00\x00\x00"), does(1, api.Call{N: api.SysSigret}, 0),
		writes(1, "ABC"), shown(1, 3), shown(1, 6), shown(1, 5), exits(1, 0))
	wantOut(t, u, "\x00\x00\x00\x00ABC")
}

// 23.2: the handler's stack is empty: all 32 numbers of it may be had.
func TestHandlerHasAnEmptyStack(t *testing.T) {
	s := "1 zero:h 10 @h signal drop 1 10 kill " + strings.Repeat("dup ", 30) + "yield drop" + strings.Repeat(" drop", 31) + idle + " h: " + strings.Repeat("yield ", 32) + strings.Repeat("drop ", 32) + "jump:h"
	cfg := runs(t, s)
	l := []api.Event{does(1, api.Call{N: api.SysSignal, A: 10, B: placeOf(t, s, "h")}, 0), does(1, api.Call{N: api.SysKill, A: 1, B: 10}, 0), comes(1, 10)}
	for range 70 {
		l = append(l, yields(1))
	}
	plays(t, cfg, l...)
}
