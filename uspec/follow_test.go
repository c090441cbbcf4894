package uspec_test

import (
	"fmt"
	"math"
	"slices"
	"testing"

	"janus/api"
	"janus/uspec"
)

func wantFollow(t *testing.T, cfg api.Config, want int, l ...api.Event) {
	t.Helper()
	if got := uspec.Follow(cfg, l); got != want {
		t.Errorf("Follow takes %d, want %d of %v", got, want, short(l))
	}
}

func picks(l ...int) (p []api.Pick) {
	for _, env := range l {
		p = append(p, api.Pick{Env: env, Fuel: 200})
	}
	return p
}

func wantRun(t *testing.T, cfg api.Config, p []api.Pick, want ...api.Event) {
	t.Helper()
	if got, e := uspec.Run(cfg, p); e != api.OK || !slices.Equal(got, want) {
		t.Errorf("Run(%v) = %v, %d, want %v", short(p), got, e, want)
	}
	wantFollow(t, cfg, len(want), want...)
}

// 23.3: the events of Steps, in their order; none of Steps that tell none.
func TestRun(t *testing.T) {
	cfg := runs(t, "fork zero:child getpid drop 0 wait drop 7 end child: getpid drop 8 end")
	pid := func(n int) api.Event { return does(n, api.Call{N: api.SysGetpid}, n) }
	wantRun(t, cfg, nil)
	wantRun(t, cfg, []api.Pick{})
	wantRun(t, cfg, picks(0, 2, 3, -1, 9, 8, math.MaxInt, math.MinInt))
	wantRun(t, cfg, picks(2, 1), forks(1, 2))
	wantRun(t, cfg, picks(1, 2, 1, 1, 2, 1, 1, 2, 0), forks(1, 2), pid(2), pid(1), exits(2, 8), waited(1, 0, 2, 8), exits(1, 7))
	wantRun(t, cfg, picks(1, 1, 1, 1, 2, 1, 2, 2, 1, 1), forks(1, 2), pid(1), pid(2), exits(2, 8), waited(1, 0, 2, 8), exits(1, 7))
	for _, fuel := range append(farOff(), 0, -1, 1, 2, 199, 200, 201) {
		p := []api.Pick{{Env: 1, Fuel: fuel}, {Env: 2, Fuel: fuel}, {Env: 1, Fuel: 0}}
		if fuel <= 0 {
			wantRun(t, cfg, p)
		} else if fuel > 1 {
			wantRun(t, cfg, p, forks(1, 2), pid(2))
		} else {
			wantRun(t, cfg, p, forks(1, 2))
		}
	}
	wantRun(t, cfg, []api.Pick{{Env: 1, Fuel: 200}, {Env: 1, Fuel: 1}, {Env: 1, Fuel: 1}, {Env: 1, Fuel: 1}}, forks(1, 2), pid(1))
}

// 23.3: no events, and events that none shows.
func TestFollowOfNothing(t *testing.T) {
	cfg := runs(t, idle)
	wantFollow(t, cfg, 0)
	wantFollow(t, cfg, 0, api.Event{})
	wantFollow(t, cfg, 0, api.Event{Pid: 1})
	wantFollow(t, cfg, 0, api.Event{Kind: api.EvCall})
	for _, pid := range append(noPids(), 2, 3, 8) {
		wantFollow(t, cfg, 0, yields(pid))
		wantFollow(t, cfg, 0, api.Event{Pid: pid})
		wantFollow(t, cfg, 1, yields(1), yields(pid), yields(1))
	}
	wantFollow(t, cfg, 3, yields(1), yields(1), yields(1))
}

// 23.3: an event that is another one in any of its fields.
func TestFollowOfOtherEvents(t *testing.T) {
	cfg := runs(t, `"/f/g"@0 0 2 2 2 rename drop 0 pipe drop`+idle, house()...)
	want := does(1, api.Call{N: api.SysRename, Text: "/f", Text2: "/g"}, 0)
	wantFollow(t, cfg, 3, want, piped(1, 0, 3, 4), yields(1))
	for _, change := range []func(x *api.Event){
		func(x *api.Event) { x.Kind = api.EvSignal }, func(x *api.Event) { x.Kind = 0 }, func(x *api.Event) { x.Kind = 9 }, func(x *api.Event) { x.Pid = 2 }, func(x *api.Event) { x.Sig = 1 },
		func(x *api.Event) { x.Call.N++ }, func(x *api.Event) { x.Call.A++ }, func(x *api.Event) { x.Call.B++ }, func(x *api.Event) { x.Call.C++ },
		func(x *api.Event) { x.Call.Text += "/" }, func(x *api.Event) { x.Call.Text = "" }, func(x *api.Event) { x.Call.Text2 = "/f" },
		func(x *api.Event) { x.Ret.N++ }, func(x *api.Event) { x.Ret.Err = api.EINVAL }, func(x *api.Event) { x.Ret.Data = "x" }, func(x *api.Event) { x.Ret.Two[0]++ }, func(x *api.Event) { x.Ret.Two[1]-- },
	} {
		other := want
		change(&other)
		wantFollow(t, cfg, 0, other, piped(1, 0, 3, 4))
		next := piped(1, 0, 3, 4)
		change(&next)
		if next != piped(1, 0, 3, 4) {
			wantFollow(t, cfg, 1, want, next, yields(1))
		}
	}
	wantFollow(t, cfg, 0, piped(1, 0, 3, 4), want)
	wantFollow(t, cfg, 1, want, want, piped(1, 0, 3, 4))
	wantFollow(t, cfg, 1, want, yields(1), piped(1, 0, 3, 4))
}

// refused is a call for which there is no room.
func refused(x api.Call) api.Event {
	e, _ := mayLack(x.N)
	return fails(1, x, e)
}

// 23.3: a call that is refused for want of room: only the error is put on the stack, and the call is not done.
func TestFollowOfWantOfRoom(t *testing.T) {
	prog := bytesOf(t, idle2)
	for _, x := range []struct {
		words string
		call  api.Call
		done  api.Ret
	}{
		{"fork", api.Call{N: api.SysFork}, api.Ret{N: 2}},
		{"14 2 exec", api.Call{N: api.SysExec, Text: "/p"}, api.Ret{Data: prog}},
		{"0 2 7 open", api.Call{N: api.SysOpen, Text: "/f", C: 7}, api.Ret{N: 4}},
		{"10 2 1 open", api.Call{N: api.SysOpen, Text: "/n", C: 1}, api.Ret{N: 4}},
		{"1 0 4 write", api.Call{N: api.SysWrite, A: 1, Text: "/f/d"}, api.Ret{N: 4}},
		{"3 0 4 write", api.Call{N: api.SysWrite, A: 3, Text: "/f/d"}, api.Ret{N: 4}},
		{"10 2 mkdir", api.Call{N: api.SysMkdir, Text: "/n"}, api.Ret{}},
		{"0 2 10 2 link", api.Call{N: api.SysLink, Text: "/f", Text2: "/n"}, api.Ret{}},
		{"0 2 10 2 rename", api.Call{N: api.SysRename, Text: "/f", Text2: "/n"}, api.Ret{}},
	} {
		opens := does(1, api.Call{N: api.SysOpen, Text: "/f"}, 3)
		all := "/f/d" + string(make([]byte, 6)) + "/n" + "\x00\x00/p" + string(make([]byte, 112))
		s := `"/f/d"@0 "/n"@10 "/p"@14 0 2 0 open drop 6 ` + x.words + show + show + "3 100 9 read drop 1 0 16 write drop " + x.words + " jump:last last: jump:last"
		cfg := runs(t, s, append(house(), file("/p", prog))...)
		want, no := called(1, x.call, x.done), refused(x.call)
		reads := called(1, api.Call{N: api.SysRead, A: 3, B: 100, C: 9}, api.Ret{N: 5, Data: "hello"})
		wantFollow(t, cfg, 2, opens, want)
		// It is the call itself that is done when it is tried once more.
		wantFollow(t, cfg, 7, opens, no, shownErr(1, no.Ret.Err), shown(1, 6), reads, writes(1, all[:16]), want)
		wantFollow(t, cfg, 7, opens, no, shownErr(1, no.Ret.Err), shown(1, 6), reads, writes(1, all[:16]), no)
		wantFollow(t, cfg, 2, opens, no, no)
		wantFollow(t, cfg, 2, opens, no, want)
		wantFollow(t, cfg, 2, opens, no, shown(1, uint64(x.done.N)))
		if x.call.N != api.SysExec {
			wantFollow(t, cfg, 3, opens, want, shown(1, uint64(x.done.N)), shownErr(1, no.Ret.Err))
		}
		wantOtherErrors(t, cfg, opens, no)
	}
}

// wantOtherErrors asks that no other error may be that of the call, nor this one that of another.
func wantOtherErrors(t *testing.T, cfg api.Config, ahead, no api.Event) {
	t.Helper()
	for _, e := range []api.Errno{1, api.EAGAIN, api.ENOMEM, api.ENOSPC, api.EFBIG, api.EMFILE, api.EPIPE, api.ErrFull, -12, -28} {
		other := no
		other.Ret.Err = e
		if other != no {
			wantFollow(t, cfg, 1, ahead, other)
		}
	}
	for _, change := range []func(x *api.Event){
		func(x *api.Event) { x.Call.Text += "/" }, func(x *api.Event) { x.Call.Text2 += "/" }, func(x *api.Event) { x.Call.A++ }, func(x *api.Event) { x.Call.B++ }, func(x *api.Event) { x.Call.C++ },
		func(x *api.Event) { x.Call.N ^= 1 }, func(x *api.Event) { x.Kind = api.EvKilled }, func(x *api.Event) { x.Kind = api.EvSignal }, func(x *api.Event) { x.Kind = 0 }, func(x *api.Event) { x.Pid = 2 }, func(x *api.Event) { x.Pid = 0 },
	} {
		other := no
		change(&other)
		wantFollow(t, cfg, 1, ahead, other)
	}
}

// 23.3: no other call may be refused so.
func TestFollowOfOtherCallsForWantOfRoom(t *testing.T) {
	for name, s := range map[string]string{
		"exit": "0 end", "wait": "0 wait", "close": "0 close", "read": "0 0 1 read", "pipe": "0 pipe", "dupfd": "0 dupfd", "unlink": "0 0 unlink", "kill": "1 0 kill", "signal": "1 0 signal",
		"getpid": "getpid", "sigret": "sigret", "yield": "yield",
	} {
		cfg := runs(t, s+" drop"+idle)
		if name == "exit" {
			cfg = runs(t, s)
		}
		l, _ := uspec.Run(cfg, picks(1))
		wantFollow(t, cfg, 1, l...)
		if len(l) != 1 || l[0].Call.N != callNames[name] {
			t.Fatalf("%s: %v", name, l)
		}
		for _, e := range []api.Errno{api.ENOMEM, api.ENOSPC} {
			l[0].Ret = api.Ret{Err: e}
			wantFollow(t, cfg, 0, l...)
		}
	}
}

// 23.3: what the call at hand would do otherwise plays no part: it errs, it waits.
func TestFollowOfWantOfRoomWhereThereIsAnError(t *testing.T) {
	full := append(many(20, "")[1:], folder("/d"))
	for _, x := range []struct {
		words string
		call  api.Call
		err   api.Errno
	}{
		{"127 2 mkdir", api.Call{N: api.SysMkdir}, api.EFAULT},
		{"0 2 mkdir", api.Call{N: api.SysMkdir, Text: "/d"}, api.EEXIST},
		{"2 2 mkdir", api.Call{N: api.SysMkdir, Text: "/x"}, api.ENOSPC},
		{"2 2 1 open", api.Call{N: api.SysOpen, Text: "/x", C: 1}, api.ENOSPC},
		{"4 3 2 2 link", api.Call{N: api.SysLink, Text: "/n1", Text2: "/x"}, api.ENOSPC},
		{"2 2 0 open", api.Call{N: api.SysOpen, Text: "/x"}, api.ENOENT},
		{"2 2 exec", api.Call{N: api.SysExec, Text: "/x"}, api.ENOENT},
		{"5 0 2 write", api.Call{N: api.SysWrite, A: 5, Text: "/d"}, api.EBADF},
	} {
		cfg := runs(t, `"/d/x/n1"@0 `+x.words+show+idle, full...)
		no := refused(x.call)
		wantFollow(t, cfg, 3, fails(1, x.call, x.err), shownErr(1, x.err), yields(1))
		wantFollow(t, cfg, 3, no, shownErr(1, no.Ret.Err), yields(1))
	}
	cfg := runs(t, "0 pipe drop 4 0 8 write drop 4 0 3 write"+show+idle)
	fills, no := called(1, api.Call{N: api.SysWrite, A: 4, Text: "\x03\x04\x00\x00\x00\x00\x00\x00"}, api.Ret{N: 8}), refused(api.Call{N: api.SysWrite, A: 4, Text: "\x03\x04\x00"})
	wantFollow(t, cfg, 2, piped(1, 0, 3, 4), fills, does(1, no.Call, 0))
	wantFollow(t, cfg, 5, piped(1, 0, 3, 4), fills, no, shownErr(1, api.ENOSPC), yields(1))
}

// 23.3: a signal that comes ahead of the call comes ahead of its error, too; one that is to be ignored is gone.
func TestFollowOfWantOfRoomBehindASignal(t *testing.T) {
	no := refused(api.Call{N: api.SysFork})
	s := "1 zero:h 10 @h signal drop 1 10 kill drop fork" + show + idle + "h: sigret drop jump:h"
	h := placeOf(t, s, "h")
	begins := []api.Event{handles(1, 10, h), sends(1, 1, 10)}
	wantFollow(t, runs(t, s), 2, append(begins, no)...)
	wantFollow(t, runs(t, s), 6, append(begins, comes(1, 10), returns(1), no, shownErr(1, api.ENOMEM))...)
	wantFollow(t, runs(t, s), 3, append(begins, comes(1, 10), no)...)

	cfg := runs(t, "1 10 kill drop fork"+show+idle)
	wantFollow(t, cfg, 1, sends(1, 1, 10), no)
	wantFollow(t, cfg, 2, sends(1, 1, 10), dies(1, 10), no)

	cfg = runs(t, "10 18446744073709551614 signal drop 1 10 kill drop fork"+show+"10 18446744073709551615 signal drop"+idle)
	begins = []api.Event{handles(1, 10, toIgnore), sends(1, 1, 10)}
	wantFollow(t, cfg, 6, append(begins, no, shownErr(1, api.ENOMEM), handles(1, 10, byDefault), yields(1))...)
	wantFollow(t, cfg, 6, append(begins, forks(1, 2), shown(1, 2), shown(2, 0), handles(2, 10, byDefault))...)
}

// 23.3: signals, and who is killed, are followed as all else is.
func TestFollowOfSignals(t *testing.T) {
	s := "1 zero:h 10 @h signal drop 1 10 kill drop yield drop 0 0 div drop" + idle + "h: sigret drop jump:h"
	cfg := runs(t, s)
	l := []api.Event{handles(1, 10, placeOf(t, s, "h")), sends(1, 1, 10), comes(1, 10), returns(1), yields(1), dies(1, 11)}
	wantFollow(t, cfg, 6, append(slices.Clone(l), yields(1))...)
	for i := range l {
		other := slices.Clone(l)
		other[i].Sig++
		wantFollow(t, cfg, i, other...)
	}
	l[5].Kind = api.EvSignal
	wantFollow(t, cfg, 5, l...)
}

// 23.3: 500 Steps of 200 instructions are what an event is waited for; those who wait, and those who run without end, tell none.
func TestFollowWaitsForFiveHundredSteps(t *testing.T) {
	for _, x := range []struct{ steps, want int }{{0, 2}, {199, 2}, {200, 2}, {40000, 2}, {99799, 2}, {99999, 2}, {100000, 0}, {100001, 0}, {120000, 0}} {
		ahead := counts(max(x.steps, 4) - 1)
		if x.steps == 0 {
			ahead = "0"
		}
		cfg := runs(t, ahead+" drop"+idle)
		wantFollow(t, cfg, x.want, yields(1), yields(1))
		if n := x.steps / 200; x.want > 0 {
			wantRun(t, cfg, picks(slices.Repeat([]int{1}, n+1)...), yields(1))
			wantRun(t, cfg, picks(slices.Repeat([]int{1}, max(n, 1)-1)...))
		}
	}
	wantFollow(t, runs(t, "yield drop loop: jump:loop"), 1, yields(1), yields(1), yields(1))
	cfg := runs(t, "fork zero:child loop: jump:loop child: 0 pipe drop 3 0 1 read drop 0 end")
	reads := called(2, api.Call{N: api.SysRead, A: 3, C: 1}, api.Ret{N: 1, Data: "a"})
	wantFollow(t, cfg, 2, forks(1, 2), piped(2, 0, 3, 4), reads)
	wantFollow(t, cfg, 2, forks(1, 2), piped(2, 0, 3, 4), exits(1, 0))
	wantFollow(t, cfg, 2, forks(1, 2), piped(2, 0, 3, 4), api.Event{Pid: 2})
	wantFollow(t, cfg, 2, forks(1, 2), piped(2, 0, 3, 4), exits(2, 0), reads)
}

// drawn is the events of drawn picks; with greed above 0, some calls are refused for want of room.
func (d *dice) drawn(t *testing.T, cfg api.Config, n, greed int) ([]api.Event, []api.Pick) {
	t.Helper()
	m := newModel(t, cfg)
	var l []api.Event
	var p []api.Pick
	for range n {
		x := d.pick(m)
		if got, told := m.step(x.Env, x.Fuel, func(api.Call) bool { return d.below(9) < greed }); told {
			l = append(l, got)
		}
		p = append(p, x)
	}
	return l, p
}

// 23.4: Follow of Run's events is all of them.
func TestFollowOfRun(t *testing.T) {
	all, kinds := 0, map[string]bool{}
	for seed := range 200 {
		d := dice(1000 + seed)
		cfg := d.cfg(t)
		want, p := d.drawn(t, cfg, 200, 0)
		got, e := uspec.Run(cfg, p)
		if e != api.OK || !slices.Equal(got, want) {
			t.Fatalf("seed %d: Run answers %v, %d, want %v", seed, short(got), e, short(want))
		}
		wantFollow(t, cfg, len(want), want...)
		for n := range want { // and so is each front of them
			if n%20 == 3 {
				wantFollow(t, cfg, n, want[:n]...)
			}
			kinds[kindOf(want[n])] = true
		}
		all += len(want)
	}
	if all < 10000 || !kinds[fmt.Sprint(api.EvCall, " ", api.SysFork, " 0")] || !kinds["2 0 0"] || !kinds["3 0 0"] {
		t.Errorf("%d events: too few to tell", all)
	}
}

// 23.3: calls that are refused for want of room now and then, with all that comes of it.
func TestFollowWhereThereIsLittleRoom(t *testing.T) {
	lacking := 0
	for seed := range 200 {
		d := dice(2000 + seed)
		cfg := d.cfg(t)
		l, _ := d.drawn(t, cfg, 150, 1+seed%8)
		wantFollow(t, cfg, len(l), l...)
		for _, x := range l {
			if e, may := mayLack(x.Call.N); may && x.Ret.Err == e {
				lacking++
			}
		}
	}
	if lacking < 1000 {
		t.Errorf("%d calls were refused: too few to tell", lacking)
	}
}

// bent is the events with one of them changed, left out, put in twice, or turned about with the next.
func (d *dice) bent(l []api.Event) []api.Event {
	l = slices.Clone(l)
	i := d.below(len(l) - 1)
	switch d.below(8) {
	case 0:
		return slices.Delete(l, i, i+1)
	case 1:
		return slices.Insert(l, i, l[i])
	case 2:
		l[i], l[i+1] = l[i+1], l[i]
	case 3:
		l[i].Pid = 1 + d.below(4)
	case 4:
		l[i].Ret.N += 1 + d.below(3)
	case 5:
		l[i].Call.A++
	case 6:
		l[i].Ret = api.Ret{Err: pickOf(d, api.ENOMEM, api.ENOSPC, api.EAGAIN)}
	case 7:
		l[i].Call.Text += "/"
	}
	return l
}

// 23.3: of events that were changed as many are taken as of the model.
func TestFollowOfBentEvents(t *testing.T) {
	fewer, all := 0, 0
	for seed := range 120 {
		d := dice(3000 + seed)
		cfg := d.cfg(t)
		l, _ := d.drawn(t, cfg, 100, seed%3)
		for range min(len(l), 8) {
			if len(l) < 2 {
				continue
			}
			bent := d.bent(l)
			want := newModel(t, cfg).follow(bent)
			wantFollow(t, cfg, want, bent...)
			all++
			if want < len(bent) {
				fewer++
			}
		}
	}
	if fewer < 200 || all-fewer < 50 {
		t.Errorf("%d of %d are not taken whole: too few to tell", fewer, all)
	}
}
