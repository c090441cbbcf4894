package caps_test

import (
	"math"
	"slices"
	"testing"

	"janus/api"
	"janus/caps"
)

const all = api.RightRead | api.RightWrite | api.RightGrant

func frame(id, rights int) api.Cap {
	return api.Cap{Kind: api.CapFrame, Id: id, Len: 1, Rights: rights}
}

func extent(id, n, rights int) api.Cap {
	return api.Cap{Kind: api.CapExtent, Id: id, Len: n, Rights: rights}
}

func fresh(t *testing.T) *caps.Caps {
	t.Helper()
	c := caps.New()
	if c == nil {
		t.Fatal("New() = nil")
	}
	return c
}

func add(t *testing.T, c *caps.Caps, env int, x api.Cap, want int) {
	t.Helper()
	if got, e := c.Add(env, x); got != want || e != api.OK {
		t.Fatalf("Add(%d, %v) = %d, %d, want %d, OK", env, x, got, e, want)
	}
	wantGet(t, c, env, want, x)
}

func addRefused(t *testing.T, c *caps.Caps, env int, x api.Cap, want api.Errno) {
	t.Helper()
	was := look(c)
	if got, e := c.Add(env, x); got != 0 || e != want {
		t.Errorf("Add(%d, %v) = %d, %d, want 0, %d", env, x, got, e, want)
	}
	wantLook(t, c, was, "a refused Add")
}

func give(t *testing.T, c *caps.Caps, env, slot, to, rights, want int) {
	t.Helper()
	x, _ := c.Get(env, slot)
	if got, e := c.Give(env, slot, to, rights); got != want || e != api.OK {
		t.Fatalf("Give(%d, %d, %d, %d) = %d, %d, want %d, OK", env, slot, to, rights, got, e, want)
	}
	wantGet(t, c, env, slot, x)
	x.Rights = rights
	wantGet(t, c, to, want, x)
}

func giveRefused(t *testing.T, c *caps.Caps, env, slot, to, rights int, want api.Errno) {
	t.Helper()
	was := look(c)
	if got, e := c.Give(env, slot, to, rights); got != 0 || e != want {
		t.Errorf("Give(%d, %d, %d, %d) = %d, %d, want 0, %d", env, slot, to, rights, got, e, want)
	}
	wantLook(t, c, was, "a refused Give")
}

// drop asks that just that one is gone, and whether it was the last.
func drop(t *testing.T, c *caps.Caps, env, slot int, last bool) {
	t.Helper()
	was := look(c)
	if got, e := c.Drop(env, slot); got != last || e != api.OK {
		t.Errorf("Drop(%d, %d) = %v, %d, want %v, OK", env, slot, got, e, last)
	}
	was[env][slot-1] = api.Cap{}
	wantLook(t, c, was, "Drop")
}

func dropRefused(t *testing.T, c *caps.Caps, env, slot int, want api.Errno) {
	t.Helper()
	was := look(c)
	if got, e := c.Drop(env, slot); got || e != want {
		t.Errorf("Drop(%d, %d) = %v, %d, want false, %d", env, slot, got, e, want)
	}
	wantLook(t, c, was, "a refused Drop")
}

// place is an environment and a slot.
type place struct{ env, slot int }

// revoke asks that just those are gone.
func revoke(t *testing.T, c *caps.Caps, env, slot int, gone ...place) {
	t.Helper()
	was := look(c)
	if got, e := c.Revoke(env, slot); got != len(gone) || e != api.OK {
		t.Errorf("Revoke(%d, %d) = %d, %d, want %d, OK", env, slot, got, e, len(gone))
	}
	for _, p := range gone {
		was[p.env][p.slot-1] = api.Cap{}
	}
	wantLook(t, c, was, "Revoke")
}

func revokeRefused(t *testing.T, c *caps.Caps, env, slot int, want api.Errno) {
	t.Helper()
	was := look(c)
	if got, e := c.Revoke(env, slot); got != 0 || e != want {
		t.Errorf("Revoke(%d, %d) = %d, %d, want 0, %d", env, slot, got, e, want)
	}
	wantLook(t, c, was, "a refused Revoke")
}

func wantGet(t *testing.T, c *caps.Caps, env, slot int, want api.Cap) {
	t.Helper()
	if got, has := c.Get(env, slot); got != want || has != (want != api.Cap{}) {
		t.Errorf("Get(%d, %d) = %v, %v, want %v", env, slot, got, has, want)
	}
}

func wantHas(t *testing.T, c *caps.Caps, env, kind, id, rights int, want bool) {
	t.Helper()
	if got := c.Has(env, kind, id, rights); got != want {
		t.Errorf("Has(%d, %d, %d, %d) = %v, want %v", env, kind, id, rights, got, want)
	}
}

func wantHolders(t *testing.T, c *caps.Caps, kind, id int, want ...int) {
	t.Helper()
	if got := c.Holders(kind, id); !slices.Equal(got, want) {
		t.Errorf("Holders(%d, %d) = %v, want %v", kind, id, got, want)
	}
}

// table is what all slots have; the zero Cap where there is none.
type table [api.MaxEnvs][api.MaxCaps]api.Cap

func look(c *caps.Caps) table {
	var l table
	for env := range l {
		for i := range l[env] {
			l[env][i], _ = c.Get(env, i+1)
		}
	}
	return l
}

func wantLook(t *testing.T, c *caps.Caps, want table, after string) {
	t.Helper()
	got := look(c)
	for env := range got {
		for i := range got[env] {
			if got[env][i] != want[env][i] {
				t.Errorf("after %s: Get(%d, %d) = %v, want %v", after, env, i+1, got[env][i], want[env][i])
			}
		}
	}
}

// fill adds capabilities for a frame that nothing else is about, till no slot of env is free.
func fill(t *testing.T, c *caps.Caps, env int) {
	t.Helper()
	for slot := 1; slot <= api.MaxCaps; slot++ {
		if _, has := c.Get(env, slot); !has {
			add(t, c, env, frame(99, all), slot)
		}
	}
}

// far is numbers far beyond all that count here.
func far() []int {
	return []int{math.MinInt, math.MinInt + 1, math.MinInt32, -1 << 20, math.MaxInt32, 1 << 40, math.MaxInt - 1, math.MaxInt}
}

func noEnvs() []int {
	return append(far(), -2, -1, api.MaxEnvs, api.MaxEnvs+1)
}

func noSlots() []int {
	return append(far(), -2, -1, 0, api.MaxCaps+1, api.MaxCaps+2)
}

func noKinds() []int {
	return append(far(), -2, -1, 0, api.CapExtent+1, api.CapExtent+2)
}

func noRights() []int {
	return append(far(), -8, -7, -4, -2, -1, 0, 8, 9, 15)
}

func TestExamples(t *testing.T) {
	c := fresh(t)
	add(t, c, 1, frame(5, 7), 1)
	give(t, c, 1, 1, 2, 1, 1)
	wantHas(t, c, 2, api.CapFrame, 5, 1, true)
	wantHas(t, c, 2, api.CapFrame, 5, 2, false)
	giveRefused(t, c, 2, 1, 3, 1, api.ErrCap)
	revoke(t, c, 1, 1, place{2, 1})
}

// 8.1: New: none, and each one is its own.
func TestNew(t *testing.T) {
	c, d := fresh(t), fresh(t)
	wantLook(t, c, table{}, "New")
	for env := range api.MaxEnvs {
		for _, kind := range []int{api.CapFrame, api.CapExtent} {
			wantHas(t, c, env, kind, 0, 0, false)
			wantHolders(t, c, kind, 0)
		}
	}
	add(t, c, 0, frame(0, all), 1)
	wantLook(t, d, table{}, "an Add elsewhere")
	wantLook(t, fresh(t), table{}, "an Add ahead")
}

// edges is the numbers at each end of what a field may be.
type edges struct{ good, bad []int }

func idEdges() edges {
	return edges{[]int{0, 1, 1<<20 - 1, 1 << 20}, []int{math.MinInt, -1, 1<<20 + 1, math.MaxInt}}
}

func lenEdges(kind int) edges {
	if kind == api.CapFrame {
		return edges{[]int{1}, []int{math.MinInt, -1, 0, 2, 3, 1 << 20, 1<<20 + 1, math.MaxInt}}
	}
	return edges{[]int{1, 2, 3, 1<<20 - 1, 1 << 20}, []int{math.MinInt, -1, 0, 1<<20 + 1, math.MaxInt}}
}

func rightEdges() edges {
	return edges{[]int{1, 2, 3, 4, 5, 6, 7}, []int{math.MinInt, -8, -1, 0, 8, 9, math.MaxInt}}
}

// 8.1: each capability at the edges of what may be is taken as it is.
func TestAddAllThatMayBe(t *testing.T) {
	c := fresh(t)
	for _, kind := range []int{api.CapFrame, api.CapExtent} {
		for _, id := range idEdges().good {
			for _, n := range lenEdges(kind).good {
				for _, rights := range rightEdges().good {
					x := api.Cap{Kind: kind, Id: id, Len: n, Rights: rights}
					add(t, c, 3, x, 1)
					wantEdges(t, c, 3, x)
					drop(t, c, 3, 1, true)
				}
			}
		}
	}
}

// wantEdges asks where x, the only one, begins and ends.
func wantEdges(t *testing.T, c *caps.Caps, env int, x api.Cap) {
	t.Helper()
	last := x.Id + x.Len - 1
	for id, want := range map[int]bool{x.Id - 1: false, x.Id: true, last: true, last + 1: false, math.MinInt: false, math.MaxInt: false} {
		wantHas(t, c, env, x.Kind, id, 0, want)
		wantHas(t, c, env, x.Kind, id, x.Rights, want)
		wantHas(t, c, env, api.CapFrame+api.CapExtent-x.Kind, id, 0, false)
		if want {
			wantHolders(t, c, x.Kind, id, env)
		} else {
			wantHolders(t, c, x.Kind, id)
		}
	}
}

// 8.1: ErrArg of each field that may not be so, whatever the others are.
func TestAddRefusesWhatMayNotBe(t *testing.T) {
	c := fresh(t)
	for _, kind := range append(noKinds(), api.CapFrame, api.CapExtent) {
		goodKind := kind == api.CapFrame || kind == api.CapExtent
		ids, lens, rights := idEdges(), lenEdges(kind), rightEdges()
		for _, id := range slices.Concat(ids.good, ids.bad) {
			for _, n := range slices.Concat(lens.good, lens.bad) {
				for _, r := range slices.Concat(rights.good, rights.bad) {
					if goodKind && slices.Contains(ids.good, id) && slices.Contains(lens.good, n) && slices.Contains(rights.good, r) {
						continue
					}
					x := api.Cap{Kind: kind, Id: id, Len: n, Rights: r}
					if got, e := c.Add(4, x); got != 0 || e != api.ErrArg {
						t.Errorf("Add(4, %v) = %d, %d, want 0, ErrArg", x, got, e)
					}
				}
			}
		}
	}
	wantLook(t, c, table{}, "refused Adds")
}

func TestAddEnvironments(t *testing.T) {
	c := fresh(t)
	for env := range api.MaxEnvs {
		add(t, c, env, frame(env, 1), 1)
		wantHolders(t, c, api.CapFrame, env, env)
	}
	for _, env := range noEnvs() {
		addRefused(t, c, env, frame(1, 1), api.ErrArg)
		addRefused(t, c, env, api.Cap{}, api.ErrArg)
	}
}

// 8.1: the lowest free slot up to MaxCaps, then ErrFull; ErrArg is named first.
func TestAddFillsSlots(t *testing.T) {
	c := fresh(t)
	for slot := 1; slot <= api.MaxCaps; slot++ {
		add(t, c, 11, extent(slot, slot, 1+slot%7), slot)
	}
	addRefused(t, c, 11, frame(0, 1), api.ErrFull)
	addRefused(t, c, 11, extent(1, 1, 1), api.ErrFull)
	addRefused(t, c, 11, frame(0, 0), api.ErrArg)
	addRefused(t, c, 11, api.Cap{}, api.ErrArg)
	add(t, c, 10, frame(0, 1), 1)
	add(t, c, 0, frame(0, 1), 1)
}

// 8.1: a slot that was freed in between is the lowest one again.
func TestAddLowestFreeSlot(t *testing.T) {
	for _, freed := range [][]int{{1}, {2}, {64}, {63, 7}, {30, 31, 32}, {64, 1}} {
		c := fresh(t)
		fill(t, c, 6)
		for _, slot := range freed {
			drop(t, c, 6, slot, false)
		}
		slices.Sort(freed)
		for _, slot := range freed {
			add(t, c, 6, extent(slot, 2, 3), slot)
		}
		addRefused(t, c, 6, frame(1, 1), api.ErrFull)
	}
}

// 8.1: the same may be added more than once: each is one of its own.
func TestAddTheSameTwice(t *testing.T) {
	c := fresh(t)
	x := frame(8, all)
	add(t, c, 2, x, 1)
	add(t, c, 2, x, 2)
	add(t, c, 3, x, 1)
	give(t, c, 2, 2, 3, 1, 2)
	revoke(t, c, 2, 1)
	revoke(t, c, 3, 1)
	revoke(t, c, 2, 2, place{3, 2})
	wantHolders(t, c, api.CapFrame, 8, 2, 3)
}

// 8.1: Give with each row of rights of each row of rights: all of them among its own, and RightGrant among these.
func TestGiveRights(t *testing.T) {
	among := map[int][]int{4: {4}, 5: {1, 4, 5}, 6: {2, 4, 6}, 7: {1, 2, 3, 4, 5, 6, 7}}
	for own := 1; own <= all; own++ {
		for _, x := range []api.Cap{frame(1<<20, own), extent(4, 9, own)} {
			c := fresh(t)
			add(t, c, 0, x, 1)
			for _, rights := range append(noRights(), 1, 2, 3, 4, 5, 6, 7) {
				if slices.Contains(among[own], rights) {
					give(t, c, 0, 1, 11, rights, 1)
					drop(t, c, 11, 1, false)
				} else {
					giveRefused(t, c, 0, 1, 11, rights, api.ErrCap)
				}
			}
		}
	}
}

// many is a state with full, half full and empty environments: which of these places may give, and which rights.
func many(t *testing.T) (*caps.Caps, map[place]int) {
	c := fresh(t)
	add(t, c, 0, frame(1, 7), 1)
	add(t, c, 0, extent(1, 5, 5), 2)
	add(t, c, 1, frame(2, 3), 1)
	fill(t, c, 5)
	for slot := 1; slot < api.MaxCaps; slot++ {
		add(t, c, 11, frame(slot, 1), slot)
	}
	add(t, c, 11, extent(0, 1<<20, 6), 64)
	givers := map[place]int{{0, 1}: 7, {0, 2}: 5, {11, 64}: 6}
	for slot := 1; slot <= api.MaxCaps; slot++ {
		givers[place{5, slot}] = 7
	}
	return c, givers
}

// 8.1: what Give answers at all edges of all its arguments, and which error first.
func TestGiveEdges(t *testing.T) {
	c, givers := many(t)
	free := map[int]int{0: 3, 1: 2, 2: 1}
	envs := []int{math.MinInt, -1, 0, 1, 2, 5, 11, 12, math.MaxInt}
	for _, env := range envs {
		for _, slot := range []int{math.MinInt, -1, 0, 1, 2, 3, 64, 65, math.MaxInt} {
			for _, to := range envs {
				for _, rights := range []int{math.MinInt, -1, 0, 1, 2, 4, 6, 7, 8, math.MaxInt} {
					own := givers[place{env, slot}]
					switch {
					case own == 0 || rights < 1 || rights > all || own|rights != own:
						giveRefused(t, c, env, slot, to, rights, api.ErrCap)
					case to < 0 || to > 11:
						giveRefused(t, c, env, slot, to, rights, api.ErrArg)
					case free[to] == 0:
						giveRefused(t, c, env, slot, to, rights, api.ErrFull)
					default:
						give(t, c, env, slot, to, rights, free[to])
						drop(t, c, to, free[to], false)
					}
				}
			}
		}
	}
}

func TestGiveFillsSlots(t *testing.T) {
	c := fresh(t)
	add(t, c, 0, extent(7, 3, all), 1)
	for slot := 1; slot <= api.MaxCaps; slot++ {
		give(t, c, 0, 1, 11, 1+slot%7, slot)
	}
	giveRefused(t, c, 0, 1, 11, 1, api.ErrFull)
	giveRefused(t, c, 0, 1, 11, 0, api.ErrCap)
	giveRefused(t, c, 0, 1, 12, 1, api.ErrArg)
	drop(t, c, 11, 40, false)
	drop(t, c, 11, 20, false)
	give(t, c, 0, 1, 11, 5, 20)
	give(t, c, 0, 1, 11, 3, 40)
	giveRefused(t, c, 0, 1, 11, 1, api.ErrFull)
}

// 8.1: Give to the same environment, also into its last free slot.
func TestGiveToItself(t *testing.T) {
	c := fresh(t)
	add(t, c, 4, frame(3, 6), 1)
	for slot := 2; slot <= api.MaxCaps; slot++ {
		give(t, c, 4, slot-1, 4, 6, slot)
	}
	giveRefused(t, c, 4, 1, 4, 6, api.ErrFull)
	giveRefused(t, c, 4, 64, 4, 2, api.ErrFull)
	giveRefused(t, c, 4, 1, 4, 1, api.ErrCap)
	wantHolders(t, c, api.CapFrame, 3, 4)
	drop(t, c, 4, 1, false)
	give(t, c, 4, 64, 4, 4, 1)
	giveRefused(t, c, 4, 1, 5, 2, api.ErrCap)
}

// 8.1: what was given is given on, with ever fewer rights, till RightGrant is lost.
func TestGiveOn(t *testing.T) {
	c := fresh(t)
	add(t, c, 1, extent(10, 4, 7), 1)
	give(t, c, 1, 1, 2, 7, 1)
	give(t, c, 2, 1, 3, 5, 1)
	giveRefused(t, c, 3, 1, 4, 2, api.ErrCap)
	giveRefused(t, c, 3, 1, 4, 7, api.ErrCap)
	give(t, c, 3, 1, 4, 5, 1)
	give(t, c, 4, 1, 5, 1, 1)
	giveRefused(t, c, 5, 1, 6, 1, api.ErrCap)
	give(t, c, 4, 1, 6, 4, 1)
	give(t, c, 6, 1, 7, 4, 1)
	giveRefused(t, c, 7, 1, 6, 1, api.ErrCap)
	wantHolders(t, c, api.CapExtent, 13, 1, 2, 3, 4, 5, 6, 7)
	wantHas(t, c, 7, api.CapExtent, 13, 4, true)
	wantHas(t, c, 7, api.CapExtent, 13, 1, false)
}

// 8.2: Get of what is no environment or no slot, and of free slots.
func TestGet(t *testing.T) {
	c, _ := many(t)
	for _, env := range noEnvs() {
		for _, slot := range append(noSlots(), 1, 2, 64) {
			wantGet(t, c, env, slot, api.Cap{})
		}
	}
	for env := range api.MaxEnvs {
		for _, slot := range noSlots() {
			wantGet(t, c, env, slot, api.Cap{})
		}
	}
	wantGet(t, c, 0, 1, frame(1, 7))
	wantGet(t, c, 0, 2, extent(1, 5, 5))
	wantGet(t, c, 0, 3, api.Cap{})
	wantGet(t, c, 11, 64, extent(0, 1<<20, 6))
	wantGet(t, c, 2, 1, api.Cap{})
}

// 8.2: Has with each row of rights: all of them, in a single one.
func TestHasRights(t *testing.T) {
	among := map[int][]int{1: {0, 1}, 2: {0, 2}, 3: {0, 1, 2, 3}, 4: {0, 4}, 5: {0, 1, 4, 5}, 6: {0, 2, 4, 6}, 7: {0, 1, 2, 3, 4, 5, 6, 7}}
	for own := 1; own <= all; own++ {
		c := fresh(t)
		add(t, c, 3, extent(5, 2, own), 1)
		for rights := 0; rights <= all; rights++ {
			wantHas(t, c, 3, api.CapExtent, 6, rights, slices.Contains(among[own], rights))
			wantHas(t, c, 3, api.CapExtent, 7, rights, false)
			wantHas(t, c, 3, api.CapFrame, 6, rights, false)
			wantHas(t, c, 2, api.CapExtent, 6, rights, false)
		}
		for _, rights := range noRights() {
			wantHas(t, c, 3, api.CapExtent, 6, rights, rights == 0)
		}
	}
}

func TestHasNotOfTwoTogether(t *testing.T) {
	c := fresh(t)
	add(t, c, 3, extent(0, 4, 1), 1)
	add(t, c, 3, extent(2, 4, 2), 2)
	add(t, c, 3, frame(2, 3), 3)
	add(t, c, 4, extent(0, 9, 3), 1)
	for id := -1; id <= 6; id++ {
		wantHas(t, c, 3, api.CapExtent, id, 1, id >= 0 && id < 4)
		wantHas(t, c, 3, api.CapExtent, id, 2, id >= 2 && id < 6)
		wantHas(t, c, 3, api.CapExtent, id, 3, false)
		wantHas(t, c, 3, api.CapExtent, id, 0, id >= 0 && id < 6)
	}
	add(t, c, 3, extent(3, 1, 7), 4)
	wantHas(t, c, 3, api.CapExtent, 3, 3, true)
	wantHas(t, c, 3, api.CapExtent, 2, 3, false)
	wantHas(t, c, 3, api.CapExtent, 4, 3, false)
}

// 8.2: numbers that are no Kind, no environment, no thing.
func TestHasAndHoldersOfNothing(t *testing.T) {
	c, _ := many(t)
	add(t, c, 0, extent(0, 1, 7), 3)
	add(t, c, 0, frame(0, 7), 4)
	for _, kind := range noKinds() {
		for _, id := range append(far(), -1, 0, 1) {
			for env := range api.MaxEnvs {
				wantHas(t, c, env, kind, id, 0, false)
			}
			wantHolders(t, c, kind, id)
		}
	}
	for _, env := range noEnvs() {
		wantHas(t, c, env, api.CapFrame, 1, 0, false)
		wantHas(t, c, env, api.CapExtent, 1, 1, false)
	}
	for _, kind := range []int{api.CapFrame, api.CapExtent} {
		for _, id := range append(far(), -1, 1<<21) {
			for env := range api.MaxEnvs {
				wantHas(t, c, env, kind, id, 0, false)
			}
			wantHolders(t, c, kind, id)
		}
	}
}

// 8.2: Holders rising, each once, whatever was added when and into which slots.
func TestHolders(t *testing.T) {
	c := fresh(t)
	for _, env := range []int{11, 3, 0, 3, 7, 11, 3} {
		if _, e := c.Add(env, extent(6, 3, 1)); e != api.OK {
			t.Fatal(e)
		}
	}
	add(t, c, 5, extent(8, 1, 4), 1)
	add(t, c, 3, extent(8, 2, 2), 4)
	add(t, c, 9, frame(7, 7), 1)
	wantHolders(t, c, api.CapExtent, 5)
	wantHolders(t, c, api.CapExtent, 6, 0, 3, 7, 11)
	wantHolders(t, c, api.CapExtent, 7, 0, 3, 7, 11)
	wantHolders(t, c, api.CapExtent, 8, 0, 3, 5, 7, 11)
	wantHolders(t, c, api.CapExtent, 9, 3)
	wantHolders(t, c, api.CapExtent, 10)
	wantHolders(t, c, api.CapFrame, 7, 9)
	wantHolders(t, c, api.CapFrame, 6)
	for env := range api.MaxEnvs {
		if _, e := c.Add(env, frame(6, 1)); e != api.OK {
			t.Fatal(e)
		}
	}
	wantHolders(t, c, api.CapFrame, 6, 0, 1, 2, 3, 4, 5, 6, 7, 8, 9, 10, 11)
}

// R4: what Holders hands out is nobody else's.
func TestHoldersAreNewMemory(t *testing.T) {
	c := fresh(t)
	for _, env := range []int{2, 4, 8} {
		add(t, c, env, frame(1, 1), 1)
	}
	a, b := c.Holders(api.CapFrame, 1), c.Holders(api.CapFrame, 1)
	for i := range a[:cap(a)] {
		a[:cap(a)][i] = 77
	}
	if !slices.Equal(b, []int{2, 4, 8}) {
		t.Errorf("an answer is %v, when another one was written over", b)
	}
	wantHolders(t, c, api.CapFrame, 1, 2, 4, 8)
	b = append(b, 9)
	wantHolders(t, c, api.CapFrame, 1, 2, 4, 8)
	drop(t, c, 4, 1, false)
	if !slices.Equal(b, []int{2, 4, 8, 9}) {
		t.Errorf("an answer is %v behind a Drop", b)
	}
}

// On nil: ErrArg, whatever else would apply; zero values where there is no error to answer.
func TestNil(t *testing.T) {
	var c *caps.Caps
	for _, env := range append(noEnvs(), 0, 1, 11) {
		for _, slot := range append(noSlots(), 1, 64) {
			if got, e := c.Give(env, slot, env, slot); got != 0 || e != api.ErrArg {
				t.Errorf("Give on nil = %d, %d", got, e)
			}
			if got, e := c.Drop(env, slot); got || e != api.ErrArg {
				t.Errorf("Drop on nil = %v, %d", got, e)
			}
			if got, e := c.Revoke(env, slot); got != 0 || e != api.ErrArg {
				t.Errorf("Revoke on nil = %d, %d", got, e)
			}
			wantGet(t, c, env, slot, api.Cap{})
			wantHas(t, c, env, api.CapFrame, slot, 0, false)
			wantHas(t, c, env, slot, env, slot, false)
			wantHolders(t, c, api.CapExtent, slot)
			wantHolders(t, c, env, slot)
		}
		for _, x := range []api.Cap{{}, frame(0, 1), extent(1, 2, 7), frame(-1, 9)} {
			if got, e := c.Add(env, x); got != 0 || e != api.ErrArg {
				t.Errorf("Add on nil = %d, %d", got, e)
			}
		}
		c.Gone(env)
	}
}
