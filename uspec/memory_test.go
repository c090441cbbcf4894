package uspec_test

import (
	"math"
	"slices"
	"testing"

	"janus/api"
	"janus/uspec"
	"janus/valid"
)

// spoil writes over a list, and behind its end as far as it reaches.
func spoil[T any](l []T, with T) {
	l = l[:cap(l)]
	for i := range l {
		l[i] = with
	}
}

// roomy is the list with others behind its end.
func roomy[T any](l []T, with T) []T {
	more := append(slices.Clone(l), slices.Repeat([]T{with}, 20)...)
	return more[:len(l)]
}

// busy is a machine whose processes do much, and what is picked of them.
func busy(t *testing.T) (api.Config, []api.Pick) {
	t.Helper()
	d := dice(7)
	cfg := d.cfg(t)
	_, p := d.drawn(t, cfg, 300, 0)
	return cfg, p
}

// wantSame asks the same of both to the end.
func wantSame(t *testing.T, u, other *uspec.Spec, p []api.Pick) {
	t.Helper()
	for _, x := range p {
		got, told := u.Step(x.Env, x.Fuel)
		if want, wantTold := other.Step(x.Env, x.Fuel); got != want || told != wantTold {
			t.Fatalf("Step(%v) answers %v, %v, and %v, %v", x, short(got), told, short(want), wantTold)
		}
	}
	if !looked(u).same(looked(other)) {
		t.Fatalf("they tell %v and %v", short(looked(u)), short(looked(other)))
	}
}

// 23.3: what Live and Tree hand out is nobody's but who asked.
func TestHandedOutIsNewMemory(t *testing.T) {
	cfg, p := busy(t)
	u, other := made(t, cfg), made(t, cfg)
	for _, x := range p {
		wantSame(t, u, other, []api.Pick{x})
		want := looked(other)
		a, b := looked(u), looked(u)
		spoil(a.live, 9)
		spoil(a.tree, api.Node{Path: "/spoilt", Dir: true, Data: "x"})
		if !b.same(want) {
			t.Fatalf("another answer became %v, want %v", short(b), short(want))
		}
		spoil(b.live, 1)
		spoil(b.tree, api.Node{})
		if !looked(u).same(want) {
			t.Fatalf("the state tells %v, want %v", short(looked(u)), short(want))
		}
	}
	wantSame(t, u, other, p)
}

// 23.3: what was handed out does not change with later Steps.
func TestLaterStepsLeaveWhatWasHandedOut(t *testing.T) {
	cfg, p := busy(t)
	u := made(t, cfg)
	var were, want []look
	for i, x := range p {
		u.Step(x.Env, x.Fuel)
		if i%20 == 0 {
			l := looked(u)
			were, want = append(were, l), append(want, look{slices.Clone(l.live), l.out, slices.Clone(l.tree)})
		}
	}
	for i, l := range were {
		if !l.same(want[i]) {
			t.Errorf("%v became %v", short(want[i]), short(l))
		}
	}
}

// 23.3: events of two Runs share nothing.
func TestRunHandsOutNewMemory(t *testing.T) {
	cfg, p := busy(t)
	a, _ := uspec.Run(cfg, p)
	b, _ := uspec.Run(cfg, p)
	want := slices.Clone(a)
	spoil(a, api.Event{})
	c, _ := uspec.Run(cfg, p)
	if len(want) == 0 || !slices.Equal(b, want) || !slices.Equal(c, want) {
		t.Errorf("Runs answer %v and %v, want %v", short(b), short(c), short(want))
	}
}

// 23.1: nothing of what was handed in is kept.
func TestNothingHandedInIsKept(t *testing.T) {
	cfg, p := busy(t)
	mine := cfg
	mine.Tree = roomy(cfg.Tree, file("/more", "more"))
	u := made(t, mine)
	spoil(mine.Tree, folder("/spoilt"))
	wantSame(t, u, made(t, cfg), p)
}

// R4: nothing of what is handed in is changed, nor what lies behind its end.
func TestNothingHandedInIsChanged(t *testing.T) {
	cfg, p := busy(t)
	events, _ := uspec.Run(cfg, p)
	whole, behind := roomy(events, api.Event{Kind: 77}), roomy(p, api.Pick{Env: 77})
	tree := roomy(cfg.Tree, file("/more", "more"))
	mine := api.Config{Tree: tree, Input: cfg.Input}
	u := made(t, mine)
	for _, x := range p {
		u.Step(x.Env, x.Fuel)
	}
	u.Tree()
	uspec.Run(mine, behind)
	for n := range whole {
		if n%30 == 0 {
			whole[n].Ret.N++
			uspec.Follow(mine, whole)
			whole[n].Ret.N--
		}
	}
	uspec.Follow(mine, whole)
	if !slices.Equal(tree[:cap(tree)], append(slices.Clone(cfg.Tree), tree[len(tree):cap(tree)]...)) || tree[:cap(tree)][len(tree)] != file("/more", "more") {
		t.Error("the tree is changed")
	}
	if !slices.Equal(behind, p) || behind[:cap(behind)][len(behind)].Env != 77 || !slices.Equal(whole, events) || whole[:cap(whole)][len(whole)].Kind != 77 {
		t.Error("picks or events are changed")
	}
}

// R5: the same Steps of two states answer the same, whatever is done to a third one between.
func TestStatesAreApart(t *testing.T) {
	cfg, p := busy(t)
	u, twin, other := made(t, cfg), made(t, cfg), made(t, cfg)
	for i, x := range p {
		other.Step(p[len(p)-1-i].Env, 200)
		wantSame(t, u, twin, []api.Pick{x})
	}
}

// R1: nil, and a state that New did not make, tell nothing.
func TestNil(t *testing.T) {
	for _, u := range []*uspec.Spec{nil, {}} {
		for _, pid := range append(noPids(), 1, 2, 8) {
			for _, fuel := range []int{math.MinInt, -1, 0, 1, 200, math.MaxInt} {
				wantNothing(t, u, pid, fuel)
			}
		}
		wantLive(t, u)
		wantOut(t, u, "")
		wantTree(t, u)
	}
}

// R1: events and trees of any kind: each call ends, and none panics.
func TestAnyInputs(t *testing.T) {
	d := dice(5)
	numbers := append(farOff(), 0, 1, 2, 3, 4, 28, 12)
	text := func() string { return pickOf(&d, "", "/f", "/init", "\x00", string(make([]byte, 300))) }
	event := func() api.Event {
		n := func() int { return pickOf(&d, numbers...) }
		w := func() uint64 { return uint64(n()) }
		x := api.Call{N: pickOf(&d, n(), d.below(22)), A: w(), B: w(), C: w(), Text: text(), Text2: text()}
		return api.Event{Kind: pickOf(&d, 1, n()), Pid: pickOf(&d, 1, n()), Sig: n(), Call: x, Ret: api.Ret{N: n(), Err: api.Errno(n()), Data: text(), Two: [2]int{n(), n()}}}
	}
	loop := runs(t, "again: fork drop 1 0 5 write drop jump:again")
	for range 3000 {
		l := []api.Event{forks(1, 2), event(), event()}
		if n := uspec.Follow(loop, l); n != 1 {
			t.Fatalf("Follow takes %d of %v", n, l)
		}
		cfg := api.Config{Frames: numbers[d.below(len(numbers))], Input: text()}
		for range d.below(5) {
			cfg.Tree = append(cfg.Tree, api.Node{Path: text(), Dir: d.below(2) == 0, Data: pickOf(&d, text(), bytesOf(t, idle))})
		}
		u, e := uspec.New(cfg)
		if (u == nil) == (e == api.OK) {
			t.Fatalf("New answers %v, %d", u, e)
		}
		for range 5 {
			u.Step(pickOf(&d, 1, numbers[d.below(len(numbers))]), numbers[d.below(len(numbers))])
		}
	}
}

// 23.1, 23.2: bytes of all kinds as /init: they can't be run, or run as the model has it.
func TestAnyProgram(t *testing.T) {
	ran := 0
	for seed := range 60000 {
		d := dice(seed)
		s := make([]byte, 3+d.below(12))
		for i := range s {
			s[i] = byte(pickOf(&d, d.below(24), 23, 21, 0, 3, d.below(20), d.below(256)))
		}
		s[len(s)-3], s[len(s)-2], s[len(s)-1] = api.OpJump, byte(d.below(len(s))), 0
		cfg := api.Config{Tree: nodes(file("/init", string(s))), Input: typed}
		if valid.Check(string(s)) == api.OK {
			ran++
			l, p := d.drawn(t, cfg, 12, 0)
			wantRun(t, cfg, p, l...)
		} else if seed%50 == 0 {
			wantNoState(t, cfg, api.ENOEXEC)
		}
	}
	if ran < 300 {
		t.Errorf("%d programs that may be run: too few to tell", ran)
	}
}
