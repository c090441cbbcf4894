package caps_test

import (
	"testing"

	"janus/api"
	"janus/caps"
)

// steps makes numbers that are the same in each run.
type steps uint64

func (s *steps) next(below int) int {
	*s = *s*6364136223846793005 + 1442695040888963407
	return int(uint64(*s>>33) % uint64(below))
}

// made is a capability of the model. One that was dropped stays as a link of the chain, so that nothing is handed over.
type made struct {
	at   place
	what api.Cap
	of   *made
	gone bool
}

type model struct {
	all []*made
}

func (m *model) at(p place) *made {
	for _, x := range m.all {
		if !x.gone && x.at == p {
			return x
		}
	}
	return nil
}

func (m *model) put(env int, what api.Cap, of *made) (int, api.Errno) {
	for slot := 1; slot <= api.MaxCaps; slot++ {
		if m.at(place{env, slot}) == nil {
			m.all = append(m.all, &made{at: place{env, slot}, what: what, of: of})
			return slot, api.OK
		}
	}
	return 0, api.ErrFull
}

func (m *model) add(env int, x api.Cap) (int, api.Errno) {
	good := env >= 0 && env <= 11 && x.Id >= 0 && x.Id <= 1048576 && x.Rights >= 1 && x.Rights <= 7
	good = good && (x.Kind == 1 && x.Len == 1 || x.Kind == 2 && x.Len >= 1 && x.Len <= 1048576)
	if !good {
		return 0, api.ErrArg
	}
	return m.put(env, x, nil)
}

func (m *model) give(env, slot, to, rights int) (int, api.Errno) {
	x := m.at(place{env, slot})
	if x == nil || x.what.Rights < 4 || rights < 1 || rights > 7 || x.what.Rights|rights != x.what.Rights {
		return 0, api.ErrCap
	}
	if to < 0 || to > 11 {
		return 0, api.ErrArg
	}
	return m.put(to, api.Cap{Kind: x.what.Kind, Id: x.what.Id, Len: x.what.Len, Rights: rights}, x)
}

func (m *model) drop(env, slot int) (bool, api.Errno) {
	x := m.at(place{env, slot})
	if x == nil {
		return false, api.ErrCap
	}
	x.gone = true
	for id := x.what.Id; id < x.what.Id+x.what.Len; id++ {
		if m.holders(x.what.Kind, id) != [api.MaxEnvs]bool{} {
			return false, api.OK
		}
	}
	return true, api.OK
}

func (x *made) isBelow(y *made) bool {
	for x = x.of; x != nil; x = x.of {
		if x == y {
			return true
		}
	}
	return false
}

func (m *model) revoke(env, slot int) (int, api.Errno) {
	x := m.at(place{env, slot})
	if x == nil {
		return 0, api.ErrCap
	}
	n := 0
	for _, y := range m.all {
		if !y.gone && y.isBelow(x) {
			y.gone = true
			n++
		}
	}
	return n, api.OK
}

func (m *model) has(env, kind, id, rights int) bool {
	for _, x := range m.all {
		if !x.gone && x.at.env == env && x.what.Kind == kind && x.what.Id <= id && id <= x.what.Id+x.what.Len-1 && x.what.Rights|rights == x.what.Rights {
			return true
		}
	}
	return false
}

func (m *model) holders(kind, id int) [api.MaxEnvs]bool {
	var l [api.MaxEnvs]bool
	for env := range l {
		l[env] = m.has(env, kind, id, 0)
	}
	return l
}

// call is one call with its arguments.
type call struct {
	name                  string
	env, slot, to, rights int
	what                  api.Cap
}

// answer is what a call answers: a slot, a number, or 1 for true.
type answer struct {
	n int
	e api.Errno
}

func number(b bool) int {
	if b {
		return 1
	}
	return 0
}

func (x call) on(c *caps.Caps) (a answer) {
	var last bool
	switch x.name {
	case "Add":
		a.n, a.e = c.Add(x.env, x.what)
	case "Give":
		a.n, a.e = c.Give(x.env, x.slot, x.to, x.rights)
	case "Drop":
		last, a.e = c.Drop(x.env, x.slot)
		a.n = number(last)
	case "Revoke":
		a.n, a.e = c.Revoke(x.env, x.slot)
	case "Gone":
		c.Gone(x.env)
	}
	return a
}

func (x call) onModel(m *model) (a answer) {
	var last bool
	switch x.name {
	case "Add":
		a.n, a.e = m.add(x.env, x.what)
	case "Give":
		a.n, a.e = m.give(x.env, x.slot, x.to, x.rights)
	case "Drop":
		last, a.e = m.drop(x.env, x.slot)
		a.n = number(last)
	case "Revoke":
		a.n, a.e = m.revoke(x.env, x.slot)
	case "Gone":
		for slot := 1; slot <= 64; slot++ {
			m.drop(x.env, slot)
		}
	}
	return a
}

// play is how a run of calls is made: of which calls, how many environments, and of how many slots.
type play struct {
	names       []string
	envs, slots int
}

func plays() []play {
	return []play{
		{[]string{"Add", "Give", "Give", "Give", "Drop", "Revoke"}, 4, 4},
		{[]string{"Add", "Add", "Give", "Give", "Give", "Give", "Drop", "Drop", "Gone"}, 3, 6},
		{[]string{"Add", "Add", "Give", "Drop", "Revoke", "Gone"}, 12, 2},
		{[]string{"Add", "Give", "Give", "Give", "Give", "Give", "Give", "Drop", "Revoke"}, 3, 16},
		{[]string{"Add", "Add", "Give", "Give", "Give", "Give", "Give", "Drop"}, 2, 64},
	}
}

// env is mostly one of so many, seldom none.
func (p play) env(s *steps) int {
	if s.next(20) == 0 {
		return []int{-1, api.MaxEnvs}[s.next(2)]
	}
	return s.next(p.envs)
}

// slot is mostly one that has something.
func (p play) slot(s *steps, c *caps.Caps, env int) int {
	var l []int
	for slot := 1; slot <= api.MaxCaps; slot++ {
		if _, has := c.Get(env, slot); has {
			l = append(l, slot)
		}
	}
	if len(l) == 0 || s.next(10) == 0 {
		return 1 + s.next(p.slots)
	}
	return l[s.next(len(l))]
}

// make makes a call that is mostly not refused.
func (p play) make(s *steps, c *caps.Caps) call {
	x := call{name: p.names[s.next(len(p.names))], env: p.env(s), to: p.env(s), rights: 1 + s.next(all)}
	x.slot = p.slot(s, c, x.env)
	if own, _ := c.Get(x.env, x.slot); own.Rights > 0 && s.next(3) > 0 {
		x.rights = own.Rights
	}
	x.what = api.Cap{Kind: api.CapFrame, Id: s.next(6), Len: 1, Rights: 4 + s.next(4)}
	if s.next(2) == 0 {
		x.what.Kind, x.what.Len = api.CapExtent, 1+s.next(3)
	}
	switch s.next(24) {
	case 0:
		x.rights = []int{-1, 0, 8}[s.next(3)]
	case 1:
		x.slot = []int{-1, 0, 65}[s.next(3)]
	case 2:
		x.what.Kind = s.next(4)
	case 3:
		x.what.Len = s.next(3)
	case 4:
		x.what.Rights = s.next(10) - 1
	case 5, 6:
		x.what.Rights = 1 + s.next(3)
	}
	return x
}

// 8.1, 8.2: runs of calls answer what the model answers, and leave what it leaves.
func TestAgainstTheModel(t *testing.T) {
	for k, p := range plays() {
		seen := map[api.Errno]int{}
		for seed := range 12 {
			s := steps(1000*k + seed)
			c, m := fresh(t), &model{}
			for range 300 {
				seen[agree(t, c, m, p.make(&s, c))]++
			}
			for _, at := range taken(look(c), table{}) {
				agree(t, c, m, call{name: "Revoke", env: at.env, slot: at.slot})
			}
		}
		if seen[api.OK] < 1200 || seen[api.ErrArg] == 0 || seen[api.ErrCap] == 0 || (p.slots == api.MaxCaps) != (seen[api.ErrFull] > 0) {
			t.Errorf("play %d: the calls do not try enough: %v", k, seen)
		}
	}
}

// agree makes the call on both, and answers its error.
func agree(t *testing.T, c *caps.Caps, m *model, x call) api.Errno {
	t.Helper()
	got, want := x.on(c), x.onModel(m)
	if got != want {
		t.Fatalf("%v answers %v, want %v", x, got, want)
	}
	compare(t, c, m, x)
	return got.e
}

// compare asks all that can be asked of a few things.
func compare(t *testing.T, c *caps.Caps, m *model, after call) {
	t.Helper()
	var want table
	for _, x := range m.all {
		if !x.gone {
			want[x.at.env][x.at.slot-1] = x.what
		}
	}
	if look(c) != want {
		t.Fatalf("after %v: the slots are not as they should be", after)
	}
	for _, kind := range []int{api.CapFrame, api.CapExtent} {
		id := after.what.Id + after.rights%3 - 1
		for env := range api.MaxEnvs {
			if c.Has(env, kind, id, after.rights) != m.has(env, kind, id, after.rights) {
				t.Fatalf("after %v: Has(%d, %d, %d, %d)", after, env, kind, id, after.rights)
			}
		}
		if got := among(c.Holders(kind, id)); got != m.holders(kind, id) {
			t.Fatalf("after %v: Holders(%d, %d) = %v", after, kind, id, got)
		}
	}
}

func among(envs []int) [api.MaxEnvs]bool {
	var l [api.MaxEnvs]bool
	for _, env := range envs {
		l[env] = true
	}
	return l
}

// power is which rights each environment has for each of the things that the runs are about.
type power [api.MaxEnvs][3][10]int

func powers(c *caps.Caps) power {
	var w power
	for env := range w {
		for kind := range w[env] {
			for id := range w[env][kind] {
				for _, right := range []int{api.RightRead, api.RightWrite, api.RightGrant} {
					if c.Has(env, kind, id, right) {
						w[env][kind][id] |= right
					}
				}
			}
		}
	}
	return w
}

// gained answers what anybody has in b and had not in a.
func gained(a, b power) power {
	for env := range a {
		for kind := range a[env] {
			for id := range a[env][kind] {
				a[env][kind][id] = b[env][kind][id] &^ a[env][kind][id]
			}
		}
	}
	return a
}

// 8.3: a right comes by Add, or by Give from who had it, with RightGrant; and it goes only by Drop and Gone of who had it, and by Revoke.
func TestRightsComeFromWhoHadThem(t *testing.T) {
	for k, p := range plays()[:4] {
		for seed := range 8 {
			s := steps(777*k + seed)
			c := fresh(t)
			for range 120 {
				x := p.make(&s, c)
				was := powers(c)
				a := x.on(c)
				is := powers(c)
				got, lost := gained(was, is), gained(is, was)
				switch {
				case a.e != api.OK:
					wantNone(t, x, got, -1)
					wantNone(t, x, lost, -1)
				case x.name == "Add":
					wantNone(t, x, got, x.env)
					wantNone(t, x, lost, -1)
				case x.name == "Give":
					wantNone(t, x, got, x.to)
					wantNone(t, x, lost, -1)
					wantGiven(t, x, got[max(x.to, 0)], was[x.env])
				case x.name == "Revoke":
					wantNone(t, x, got, -1)
				default:
					wantNone(t, x, got, -1)
					wantNone(t, x, lost, x.env)
				}
			}
		}
	}
}

// wantNone asks that nothing is in w, but for that environment.
func wantNone(t *testing.T, x call, w power, but int) {
	t.Helper()
	if but >= 0 && but < api.MaxEnvs {
		w[but] = [3][10]int{}
	}
	if w != (power{}) {
		t.Fatalf("%v: somebody else's rights changed: %v", x, w)
	}
}

// wantGiven asks that the giver had each right that was got, and RightGrant for that thing.
func wantGiven(t *testing.T, x call, got, had [3][10]int) {
	t.Helper()
	for kind := range got {
		for id, rights := range got[kind] {
			if rights&^had[kind][id] != 0 || rights&^x.rights != 0 || rights != 0 && had[kind][id]&api.RightGrant == 0 {
				t.Fatalf("%v: got %d for %d %d of who had %d", x, rights, kind, id, had[kind][id])
			}
		}
	}
}

// 8.3: each Add is for a frame of its own here, so that whoever has one for that frame has it of that Add's.
func TestNothingIsLeftBehindRevoke(t *testing.T) {
	for seed := range 20 {
		s := steps(seed)
		c := fresh(t)
		for id := range 10 {
			add(t, c, id, frame(id, all), 1)
		}
		for range 300 {
			env, slot := s.next(api.MaxEnvs), 1+s.next(6)
			if s.next(4) == 0 && slot > 1 {
				c.Drop(env, slot)
			} else {
				c.Give(env, slot, s.next(api.MaxEnvs), 4+s.next(4))
			}
		}
		for id := range 10 {
			before := ofFrame(c, id)
			if n, e := c.Revoke(id, 1); n != before-1 || e != api.OK {
				t.Errorf("seed %d: Revoke(%d, 1) = %d, %d, want %d, OK", seed, id, n, e, before-1)
			}
			wantHolders(t, c, api.CapFrame, id, id)
			wantGet(t, c, id, 1, frame(id, all))
			if n := ofFrame(c, id); n != 1 {
				t.Errorf("seed %d: behind Revoke(%d, 1) %d are left", seed, id, n)
			}
		}
	}
}

// ofFrame answers how many slots have one for that frame.
func ofFrame(c *caps.Caps, id int) int {
	n := 0
	for _, slots := range look(c) {
		for _, x := range slots {
			if x != (api.Cap{}) && x.Id == id {
				n++
			}
		}
	}
	return n
}

// R5: the same calls answer the same each time.
func TestTheSameAgain(t *testing.T) {
	for k, p := range plays() {
		run := func() ([]answer, told) {
			var l []answer
			b := build(func() *caps.Caps {
				c, s := fresh(t), steps(31+k)
				l = nil
				for range 100 {
					l = append(l, p.make(&s, c).on(c))
				}
				return c
			})
			w := b.tell()
			return l, w
		}
		first, told := run()
		second, again := run()
		for i := range first {
			if first[i] != second[i] {
				t.Errorf("play %d: call %d answers %v, then %v", k, i, first[i], second[i])
			}
		}
		wantSame(t, "again", again, told)
	}
}
