package caps_test

import (
	"slices"
	"testing"

	"janus/api"
	"janus/caps"
)

// build makes the same thing anew each time, so that it can be asked by calls that change it.
type build func() *caps.Caps

// then is what was built, and one call more.
func (b build) then(call func(c *caps.Caps)) build {
	return func() *caps.Caps {
		c := b()
		call(c)
		return c
	}
}

// dropped is what was built, without that one.
func (b build) dropped(env, slot int) build {
	return b.then(func(c *caps.Caps) { c.Drop(env, slot) })
}

// taken answers which slots have something in a, and nothing in b.
func taken(a, b table) []place {
	var l []place
	for env := range a {
		for i := range a[env] {
			if a[env][i] != (api.Cap{}) && b[env][i] == (api.Cap{}) {
				l = append(l, place{env, i + 1})
			}
		}
	}
	return l
}

// below answers what was made of that one, and so on, as Revoke tells.
func (b build) below(p place) []place {
	c := b()
	was := look(c)
	c.Revoke(p.env, p.slot)
	return taken(was, look(c))
}

// told is all that later calls could tell of a thing: what the slots have, what is made of what, and which slots are handed out next.
type told struct {
	slots table
	below map[place][]place
	next  [api.MaxEnvs][]int
}

func (b build) tell() told {
	w := told{slots: look(b()), below: map[place][]place{}}
	for _, p := range taken(w.slots, table{}) {
		w.below[p] = b.below(p)
	}
	c := b()
	for env := range w.next {
		for {
			slot, e := c.Add(env, frame(1, 1))
			if e != api.OK {
				break
			}
			w.next[env] = append(w.next[env], slot)
		}
	}
	return w
}

func wantSame(t *testing.T, what string, got, want told) {
	t.Helper()
	if got.slots != want.slots {
		t.Errorf("%s: the slots changed", what)
	}
	for p, l := range want.below {
		if !slices.Equal(got.below[p], l) {
			t.Errorf("%s: made of %v are %v, and were %v", what, p, got.below[p], l)
		}
	}
	for env := range want.next {
		if !slices.Equal(got.next[env], want.next[env]) {
			t.Errorf("%s: the free slots of %d are %v, and were %v", what, env, got.next[env], want.next[env])
		}
	}
}

func wantBelow(t *testing.T, b build, p place, want ...place) {
	t.Helper()
	c := b()
	if n, e := c.Revoke(p.env, p.slot); n != len(want) || e != api.OK {
		t.Errorf("Revoke(%d, %d) = %d, %d, want %d, OK", p.env, p.slot, n, e, len(want))
	}
	if got := b.below(p); !slices.Equal(got, want) {
		t.Errorf("made of %v are %v, want %v", p, got, want)
	}
}

// family is a tree over several environments, with two in environment 2 and one that was given back to 1:
// {1 1} gave {2 1} and {2 2}; {2 1} gave {3 1} and {1 2}; {3 1} gave {4 1}; {1 2} gave {4 2}; {5 1} is apart, and gave {2 3}.
func family(t *testing.T) build {
	return func() *caps.Caps {
		c := fresh(t)
		for _, env := range []int{1, 5} {
			c.Add(env, extent(3, 4, 7))
		}
		for _, g := range [][4]int{{1, 1, 2, 7}, {1, 1, 2, 5}, {2, 1, 3, 7}, {2, 1, 1, 7}, {3, 1, 4, 7}, {1, 2, 4, 3}, {5, 1, 2, 7}} {
			if _, e := c.Give(g[0], g[1], g[2], g[3]); e != api.OK {
				t.Fatalf("Give%v: %d", g, e)
			}
		}
		return c
	}
}

// 8.1: Revoke in a tree: all that were made of it, and of these, and so on; the rest stays, and itself.
func TestRevokeTree(t *testing.T) {
	b := family(t)
	wantBelow(t, b, place{1, 1}, place{1, 2}, place{2, 1}, place{2, 2}, place{3, 1}, place{4, 1}, place{4, 2})
	wantBelow(t, b, place{2, 1}, place{1, 2}, place{3, 1}, place{4, 1}, place{4, 2})
	wantBelow(t, b, place{3, 1}, place{4, 1})
	wantBelow(t, b, place{1, 2}, place{4, 2})
	wantBelow(t, b, place{5, 1}, place{2, 3})
	for _, p := range []place{{2, 2}, {2, 3}, {4, 1}, {4, 2}} {
		wantBelow(t, b, p)
	}
}

// 8.1: Revoke twice: nothing is left for the second one.
func TestRevokeTwice(t *testing.T) {
	c := family(t)()
	revoke(t, c, 2, 1, place{1, 2}, place{3, 1}, place{4, 1}, place{4, 2})
	revoke(t, c, 2, 1)
	revoke(t, c, 1, 1, place{2, 1}, place{2, 2})
	revoke(t, c, 1, 1)
	wantHolders(t, c, api.CapExtent, 6, 1, 2, 5)
	revoke(t, c, 5, 1, place{2, 3})
	wantHolders(t, c, api.CapExtent, 6, 1, 5)
}

// 8.1: Revoke asks for no right of the one in slot.
func TestRevokeNeedsNoRight(t *testing.T) {
	c := fresh(t)
	add(t, c, 1, frame(5, 7), 1)
	give(t, c, 1, 1, 2, 5, 1)
	give(t, c, 2, 1, 3, 1, 1)
	revoke(t, c, 3, 1)
	add(t, c, 4, frame(6, 1), 1)
	revoke(t, c, 4, 1)
	revoke(t, c, 2, 1, place{3, 1})
}

// 8.1: a chain through all slots of all environments, of which each next one is somewhere else.
func TestRevokeLongChain(t *testing.T) {
	c := fresh(t)
	add(t, c, 0, frame(7, 7), 1)
	last := place{0, 1}
	var chain []place
	for n := 1; n < api.MaxEnvs*api.MaxCaps; n++ {
		env, slot := n%api.MaxEnvs, n/api.MaxEnvs+1
		give(t, c, last.env, last.slot, env, 7, slot)
		last = place{env, slot}
		chain = append(chain, last)
	}
	giveRefused(t, c, 0, 1, 0, 7, api.ErrFull)
	revoke(t, c, last.env, last.slot)
	half := chain[len(chain)/2]
	revoke(t, c, half.env, half.slot, chain[len(chain)/2+1:]...)
	revoke(t, c, 0, 1, chain[:len(chain)/2+1]...)
	wantHolders(t, c, api.CapFrame, 7, 0)
}

// 8.1: all that environments can hold, made of one.
func TestRevokeWide(t *testing.T) {
	c := fresh(t)
	add(t, c, 11, extent(1, 2, 7), 1)
	var l []place
	for env := range api.MaxEnvs {
		for slot := 1; slot <= api.MaxCaps; slot++ {
			if (place{env, slot}) != (place{11, 1}) {
				give(t, c, 11, 1, env, 3, slot)
				l = append(l, place{env, slot})
			}
		}
	}
	revoke(t, c, 11, 1, l...)
	add(t, c, 0, frame(1, 1), 1)
	add(t, c, 11, frame(1, 1), 2)
}

// 8.1: descendants in the same environment, in slots ahead of and behind their own.
func TestRevokeInOneEnvironment(t *testing.T) {
	c := fresh(t)
	add(t, c, 3, frame(1, 1), 1)
	add(t, c, 3, frame(2, 7), 2)
	drop(t, c, 3, 1, true)
	give(t, c, 3, 2, 3, 7, 1)
	give(t, c, 3, 1, 3, 7, 3)
	give(t, c, 3, 3, 3, 1, 4)
	give(t, c, 3, 2, 3, 1, 5)
	revoke(t, c, 3, 3, place{3, 4})
	revoke(t, c, 3, 2, place{3, 1}, place{3, 3}, place{3, 5})
	wantGet(t, c, 3, 2, frame(2, 7))
	add(t, c, 3, frame(3, 1), 1)
	revoke(t, c, 3, 2)
}

// 8.1: a slot that is had anew is made of nothing that was made of what was there.
func TestSlotsHadAnew(t *testing.T) {
	c := fresh(t)
	add(t, c, 1, frame(5, 7), 1)
	give(t, c, 1, 1, 2, 7, 1)
	give(t, c, 2, 1, 3, 7, 1)
	drop(t, c, 2, 1, false)
	add(t, c, 2, frame(5, 7), 1)
	revoke(t, c, 2, 1)
	give(t, c, 2, 1, 4, 1, 1)
	revoke(t, c, 1, 1, place{3, 1})
	revoke(t, c, 2, 1, place{4, 1})
	drop(t, c, 1, 1, false)
	add(t, c, 1, frame(6, 7), 1)
	give(t, c, 2, 1, 3, 7, 1)
	revoke(t, c, 1, 1)
	revoke(t, c, 2, 1, place{3, 1})
}

// 8.1: behind a Drop those made of it are made of whatever it was made of.
func TestDropHandsOver(t *testing.T) {
	b := family(t)
	mid := b.dropped(2, 1)
	wantBelow(t, mid, place{1, 1}, place{1, 2}, place{2, 2}, place{3, 1}, place{4, 1}, place{4, 2})
	wantBelow(t, mid, place{3, 1}, place{4, 1})
	wantBelow(t, mid, place{1, 2}, place{4, 2})
	wantBelow(t, mid, place{5, 1}, place{2, 3})
	two := mid.dropped(3, 1)
	wantBelow(t, two, place{1, 1}, place{1, 2}, place{2, 2}, place{4, 1}, place{4, 2})
	wantBelow(t, two, place{1, 2}, place{4, 2})
	wantBelow(t, two, place{4, 1})
	leaf := b.dropped(4, 2)
	wantBelow(t, leaf, place{1, 2})
	wantBelow(t, leaf, place{2, 1}, place{1, 2}, place{3, 1}, place{4, 1})
}

// 8.1: behind a Drop of one that nobody made, those made of it are made by nobody.
func TestDropOfTheFirst(t *testing.T) {
	b := family(t).dropped(1, 1)
	wantBelow(t, b, place{2, 1}, place{1, 2}, place{3, 1}, place{4, 1}, place{4, 2})
	wantBelow(t, b, place{2, 2})
	wantBelow(t, b, place{5, 1}, place{2, 3})
	again := b.then(func(c *caps.Caps) { add(t, c, 1, extent(3, 4, 7), 1) })
	wantBelow(t, again, place{1, 1})
	wantBelow(t, again, place{2, 1}, place{1, 2}, place{3, 1}, place{4, 1}, place{4, 2})
	both := b.dropped(2, 1)
	wantBelow(t, both, place{3, 1}, place{4, 1})
	wantBelow(t, both, place{1, 2}, place{4, 2})
	wantBelow(t, both, place{2, 2})
}

// 8.1: whether nobody has one any more for any of the same things of that Kind.
func TestDropLast(t *testing.T) {
	dropped := extent(10, 5, 3)
	for _, x := range []struct {
		other api.Cap
		last  bool
	}{
		{extent(10, 5, 3), false}, {extent(10, 5, 4), false},
		{extent(12, 1, 1), false}, {extent(10, 1, 1), false}, {extent(14, 1, 1), false},
		{extent(0, 100, 1), false}, {extent(0, 1<<20, 1), false},
		{extent(5, 6, 1), false}, {extent(14, 6, 1), false}, {extent(9, 6, 1), false}, {extent(10, 6, 1), false},
		{extent(5, 5, 1), true}, {extent(15, 6, 1), true}, {extent(0, 1, 7), true}, {extent(1<<20, 1<<20, 7), true}, {extent(9, 1, 7), true},
		{frame(10, 7), true}, {frame(12, 7), true}, {frame(14, 7), true},
	} {
		for _, env := range []int{0, 7, 11} {
			c := fresh(t)
			add(t, c, env, x.other, 1)
			if _, e := c.Add(7, dropped); e != api.OK {
				t.Fatal(e)
			}
			slot := 1
			if env == 7 {
				slot = 2
			}
			drop(t, c, 7, slot, x.last)
			drop(t, c, env, 1, true)
		}
	}
}

func TestDropLastFrame(t *testing.T) {
	for _, id := range []int{0, 1, 12, 1<<20 - 1, 1 << 20} {
		c := fresh(t)
		add(t, c, 7, frame(id, 1), 1)
		add(t, c, 8, extent(max(id-1, 0), 3, 7), 1)
		add(t, c, 9, frame(max(id-1, 2), 7), 1)
		add(t, c, 7, frame(id, 2), 2)
		add(t, c, 0, frame(id, 4), 1)
		drop(t, c, 7, 1, false)
		drop(t, c, 7, 2, false)
		drop(t, c, 0, 1, true)
		drop(t, c, 8, 1, true)
		drop(t, c, 9, 1, true)
	}
}

// 8.1: two that leave a gap between them cover it not together, nor what they touch.
func TestDropBetweenTwo(t *testing.T) {
	c := fresh(t)
	add(t, c, 1, extent(0, 4, 7), 1)
	add(t, c, 2, extent(6, 4, 7), 1)
	add(t, c, 3, extent(4, 2, 1), 1)
	drop(t, c, 3, 1, true)
	add(t, c, 3, extent(3, 4, 1), 1)
	drop(t, c, 1, 1, false)
	drop(t, c, 3, 1, false)
	drop(t, c, 2, 1, true)
}

// 8.1: what was given counts as what was added does.
func TestDropOfWhatWasGiven(t *testing.T) {
	c := fresh(t)
	add(t, c, 1, extent(2, 2, 7), 1)
	give(t, c, 1, 1, 2, 1, 1)
	give(t, c, 1, 1, 1, 4, 2)
	drop(t, c, 1, 1, false)
	drop(t, c, 1, 2, false)
	wantHolders(t, c, api.CapExtent, 3, 2)
	drop(t, c, 2, 1, true)
	wantHolders(t, c, api.CapExtent, 3)
}

// 8.1: ErrCap, where there is none.
func TestDropAndRevokeRefused(t *testing.T) {
	c, _ := many(t)
	for _, env := range noEnvs() {
		for _, slot := range append(noSlots(), 1, 64) {
			dropRefused(t, c, env, slot, api.ErrCap)
			revokeRefused(t, c, env, slot, api.ErrCap)
		}
	}
	for _, env := range []int{0, 1, 2, 5, 11} {
		for _, slot := range noSlots() {
			dropRefused(t, c, env, slot, api.ErrCap)
			revokeRefused(t, c, env, slot, api.ErrCap)
		}
	}
	for _, p := range []place{{0, 3}, {0, 64}, {1, 2}, {2, 1}, {2, 64}, {10, 1}} {
		dropRefused(t, c, p.env, p.slot, api.ErrCap)
		revokeRefused(t, c, p.env, p.slot, api.ErrCap)
	}
	drop(t, c, 0, 1, false)
	dropRefused(t, c, 0, 1, api.ErrCap)
	revokeRefused(t, c, 0, 1, api.ErrCap)
}

// R2: a refused call has changed nothing that a later one could tell, what is made of what neither.
func TestRefusedChangesNothing(t *testing.T) {
	b := family(t).then(func(c *caps.Caps) { fill(t, c, 9) })
	want := b.tell()
	for _, call := range []struct {
		what string
		do   func(c *caps.Caps) api.Errno
		want api.Errno
	}{
		{"Add without environment", func(c *caps.Caps) api.Errno { _, e := c.Add(12, frame(1, 1)); return e }, api.ErrArg},
		{"Add of what may not be", func(c *caps.Caps) api.Errno { _, e := c.Add(1, frame(1, 8)); return e }, api.ErrArg},
		{"Add to a full one", func(c *caps.Caps) api.Errno { _, e := c.Add(9, frame(1, 1)); return e }, api.ErrFull},
		{"Give of nothing", func(c *caps.Caps) api.Errno { _, e := c.Give(1, 3, 2, 1); return e }, api.ErrCap},
		{"Give without RightGrant", func(c *caps.Caps) api.Errno { _, e := c.Give(4, 2, 2, 1); return e }, api.ErrCap},
		{"Give of more rights", func(c *caps.Caps) api.Errno { _, e := c.Give(2, 2, 3, 3); return e }, api.ErrCap},
		{"Give to no environment", func(c *caps.Caps) api.Errno { _, e := c.Give(2, 1, -1, 1); return e }, api.ErrArg},
		{"Give to a full one", func(c *caps.Caps) api.Errno { _, e := c.Give(2, 1, 9, 1); return e }, api.ErrFull},
		{"Drop of nothing", func(c *caps.Caps) api.Errno { _, e := c.Drop(3, 2); return e }, api.ErrCap},
		{"Drop of no slot", func(c *caps.Caps) api.Errno { _, e := c.Drop(1, 0); return e }, api.ErrCap},
		{"Drop at no environment", func(c *caps.Caps) api.Errno { _, e := c.Drop(0, 0); return e }, api.ErrCap},
		{"Revoke of nothing", func(c *caps.Caps) api.Errno { _, e := c.Revoke(3, 2); return e }, api.ErrCap},
		{"Revoke of no slot", func(c *caps.Caps) api.Errno { _, e := c.Revoke(0, 0); return e }, api.ErrCap},
	} {
		after := b.then(func(c *caps.Caps) {
			if e := call.do(c); e != call.want {
				t.Errorf("%s: %d, want %d", call.what, e, call.want)
			}
		})
		wantSame(t, call.what, after.tell(), want)
	}
}

// 8.2, R5: asking changes nothing.
func TestAskingChangesNothing(t *testing.T) {
	b := family(t)
	asked := b.then(func(c *caps.Caps) {
		for env := -1; env <= api.MaxEnvs; env++ {
			for n := -1; n <= api.MaxCaps+1; n++ {
				c.Get(env, n)
				c.Has(env, api.CapExtent, n, n)
				c.Holders(env, n)
			}
		}
	})
	wantSame(t, "asking", asked.tell(), b.tell())
}

// 8.1: Gone of what has none, or is no environment: nothing happens.
func TestGoneOfNothing(t *testing.T) {
	b := family(t)
	want := b.tell()
	for _, env := range append(noEnvs(), 0, 6, 11) {
		wantSame(t, "Gone of nothing", b.then(func(c *caps.Caps) { c.Gone(env) }).tell(), want)
	}
}

// 8.1: Gone is Drop of all its slots: what was given on stays, made of what they were made of.
func TestGone(t *testing.T) {
	b := family(t)
	was := look(b())
	for env := 1; env <= 5; env++ {
		c := b()
		c.Gone(env)
		want := was
		want[env] = [api.MaxCaps]api.Cap{}
		wantLook(t, c, want, "Gone")
	}
	two := b.then(func(c *caps.Caps) { c.Gone(2) })
	wantBelow(t, two, place{1, 1}, place{1, 2}, place{3, 1}, place{4, 1}, place{4, 2})
	wantBelow(t, two, place{1, 2}, place{4, 2})
	wantBelow(t, two, place{5, 1})
	one := b.then(func(c *caps.Caps) { c.Gone(1) })
	wantBelow(t, one, place{2, 1}, place{3, 1}, place{4, 1}, place{4, 2})
	wantBelow(t, one, place{2, 2})
	wantBelow(t, one, place{3, 1}, place{4, 1})
	wantHolders(t, one(), api.CapExtent, 4, 2, 3, 4, 5)
}

// 8.1: Gone of an environment whose slots are all taken, some made of one another.
func TestGoneOfAFullOne(t *testing.T) {
	c := fresh(t)
	add(t, c, 8, frame(1, 7), 1)
	add(t, c, 0, frame(1, 7), 1)
	give(t, c, 0, 1, 8, 7, 2)
	for slot := 3; slot <= api.MaxCaps; slot++ {
		give(t, c, 8, slot-1, 8, 7, slot)
	}
	give(t, c, 8, 64, 11, 7, 1)
	give(t, c, 8, 1, 10, 7, 1)
	c.Gone(8)
	var want table
	want[0][0], want[11][0], want[10][0] = frame(1, 7), frame(1, 7), frame(1, 7)
	wantLook(t, c, want, "Gone")
	revoke(t, c, 10, 1)
	revoke(t, c, 0, 1, place{11, 1})
	fill(t, c, 8)
}
