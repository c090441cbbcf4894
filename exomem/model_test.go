package exomem_test

import (
	"slices"
	"testing"

	"janus/api"
	"janus/exomem"
)

// made is a capability of the model. One that was freed stays as a link of the chain, so that nothing is handed over.
type made struct {
	env, slot, frame, rights int
	of                       *made
	gone                     bool
}

// model keeps a list of all capabilities that there ever were, and the pages as they were mapped; which of them hold is asked anew each time.
type model struct {
	all   []*made
	pages [api.MaxEnvs][4]*api.Page
	words [][32]uint64
}

func newModel(frames int) *model {
	return &model{words: make([][32]uint64, frames)}
}

func (m *model) has(env, slot int) *made {
	for _, x := range m.all {
		if !x.gone && x.env == env && x.slot == slot {
			return x
		}
	}
	return nil
}

// with is the capability in a slot, if it has all these rights.
func (m *model) with(env, slot, rights int) *made {
	if x := m.has(env, slot); x != nil && x.rights&rights == rights {
		return x
	}
	return nil
}

func (m *model) put(env, frame, rights int, of *made) (x answer) {
	for slot := 1; slot <= 64; slot++ {
		if m.has(env, slot) == nil {
			m.all = append(m.all, &made{env: env, slot: slot, frame: frame, rights: rights, of: of})
			return answer{n: slot}
		}
	}
	return answer{e: api.ErrFull}
}

func (m *model) count(frame int) int {
	n := 0
	for _, x := range m.all {
		if !x.gone && x.frame == frame {
			n++
		}
	}
	return n
}

func (x *made) isBelow(y *made) bool {
	for x = x.of; x != nil; x = x.of {
		if x == y {
			return true
		}
	}
	return false
}

// unmapLost is right behind Free, Revoke and Gone.
func (m *model) unmapLost() {
	for env := range m.pages {
		for page, p := range m.pages[env] {
			if p != nil && !slices.ContainsFunc(m.all, func(x *made) bool {
				return !x.gone && x.env == env && x.frame == p.Frame && (x.rights&3 == 3 || !p.Writable && x.rights&1 == 1)
			}) {
				m.pages[env][page] = nil
			}
		}
	}
}

func noEnv(env int) bool { return env < 0 || env > 11 }

func (m *model) do(c call) answer {
	switch c.name {
	case "Alloc":
		return m.alloc(c.env)
	case "Grant":
		return m.grant(c.env, c.a, c.b, c.c)
	case "Free", "Revoke":
		return m.take(c.name == "Free", c.env, c.a)
	case "Map", "Unmap", "Page":
		return m.page(c)
	case "Load", "Store":
		return m.byAddress(c)
	case "Copy":
		to, from := m.with(c.env, c.a, 2), m.with(c.env, c.b, 1)
		if to == nil || from == nil {
			return answer{e: api.ErrCap}
		}
		m.words[to.frame] = m.words[from.frame]
	case "Read", "Write":
		return m.bySlot(c)
	case "Gone":
		for _, x := range m.all {
			x.gone = x.gone || x.env == c.env
		}
		m.unmapLost()
	}
	return m.counts(c)
}

func (m *model) alloc(env int) answer {
	if noEnv(env) {
		return answer{e: api.ErrArg}
	}
	for frame := range m.words {
		if m.count(frame) == 0 {
			x := m.put(env, frame, 7, nil)
			if x.e == api.OK {
				m.words[frame] = [32]uint64{}
			}
			return x
		}
	}
	return answer{e: api.ErrNone}
}

func (m *model) grant(env, slot, to, rights int) answer {
	x := m.with(env, slot, 4)
	if x == nil || rights < 1 || rights > 7 || x.rights|rights != x.rights {
		return answer{e: api.ErrCap}
	}
	if noEnv(to) {
		return answer{e: api.ErrArg}
	}
	return m.put(to, x.frame, rights, x)
}

// take is Free, or Revoke.
func (m *model) take(itself bool, env, slot int) answer {
	x := m.has(env, slot)
	if x == nil {
		return answer{e: api.ErrCap}
	}
	for _, y := range m.all {
		if itself && y == x || !itself && y.isBelow(x) {
			y.gone = true
		}
	}
	m.unmapLost()
	return answer{}
}

func (m *model) page(c call) answer {
	wrong := noEnv(c.env) || c.a < 0 || c.a > 3
	switch {
	case c.name == "Page" && (wrong || m.pages[c.env][c.a] == nil):
		return answer{}
	case wrong:
		return answer{e: api.ErrArg}
	case c.name == "Page":
		return answer{page: *m.pages[c.env][c.a], has: true}
	case c.name == "Unmap" && m.pages[c.env][c.a] == nil:
		return answer{e: api.ErrFault}
	case c.name == "Unmap":
		m.pages[c.env][c.a] = nil
		return answer{}
	}
	need := map[bool]int{false: 1, true: 3}[c.writable]
	x := m.with(c.env, c.b, need)
	if x == nil {
		return answer{e: api.ErrCap}
	}
	m.pages[c.env][c.a] = &api.Page{Frame: x.frame, Writable: c.writable}
	return answer{}
}

func (m *model) byAddress(c call) answer {
	if noEnv(c.env) {
		return answer{e: api.ErrArg}
	}
	if c.addr > 127 || m.pages[c.env][c.addr/32] == nil {
		return answer{e: api.ErrFault}
	}
	p := m.pages[c.env][c.addr/32]
	if c.name == "Load" {
		return answer{word: m.words[p.Frame][c.addr%32]}
	}
	if !p.Writable {
		return answer{e: api.ErrProt}
	}
	m.words[p.Frame][c.addr%32] = c.v
	return answer{}
}

func (m *model) bySlot(c call) answer {
	need := map[string]int{"Read": 1, "Write": 2}[c.name]
	x := m.with(c.env, c.a, need)
	if x == nil {
		return answer{e: api.ErrCap}
	}
	if c.b < 0 || c.b > 31 {
		return answer{e: api.ErrArg}
	}
	if c.name == "Read" {
		return answer{word: m.words[x.frame][c.b]}
	}
	m.words[x.frame][c.b] = c.v
	return answer{}
}

// counts is Left, Refs and Slot.
func (m *model) counts(c call) (a answer) {
	switch c.name {
	case "Left":
		for frame := range m.words {
			if m.count(frame) == 0 {
				a.n++
			}
		}
	case "Refs":
		if x := m.has(c.env, c.a); x != nil {
			a.n = m.count(x.frame)
		}
	case "Slot":
		for slot := 64; slot > 0; slot-- {
			if x := m.has(c.env, slot); x != nil && x.frame == c.a {
				a.n = slot
			}
		}
	}
	return a
}

// numbers makes numbers that are the same in each run.
type numbers uint64

func (s *numbers) next(below int) int {
	*s = *s*6364136223846793005 + 1442695040888963407
	return int(uint64(*s>>33) % uint64(below))
}

// kind is how a run of calls is made: of how many frames, environments and slots, and of which calls.
type kind struct {
	frames, envs, slots int
	names               []string
}

func kinds() []kind {
	return []kind{
		{3, 3, 4, []string{"Alloc", "Alloc", "Grant", "Grant", "Grant", "Map", "Map", "Map", "Map", "Free", "Revoke", "Store", "Write", "Copy"}},
		{5, 12, 2, []string{"Alloc", "Alloc", "Alloc", "Grant", "Grant", "Map", "Map", "Map", "Map", "Unmap", "Free", "Revoke", "Gone", "Load", "Store", "Read", "Write", "Copy"}},
		{9, 2, 8, []string{"Alloc", "Alloc", "Alloc", "Grant", "Map", "Map", "Free", "Store", "Store", "Load", "Write", "Copy", "Copy", "Gone"}},
		{2, 1, 64, []string{"Alloc", "Grant", "Grant", "Grant", "Grant", "Grant", "Grant", "Grant", "Grant", "Grant", "Grant", "Grant", "Grant", "Grant", "Map", "Map", "Store", "Store", "Free"}},
		{2, 4, 6, []string{"Alloc", "Alloc", "Grant", "Grant", "Grant", "Grant", "Map", "Map", "Map", "Revoke", "Free", "Store", "Unmap"}},
	}
}

// env is mostly one of so many, seldom none.
func (p kind) env(s *numbers) int {
	if s.next(24) == 0 {
		return []int{-1, api.MaxEnvs}[s.next(2)]
	}
	return s.next(p.envs)
}

// slot is mostly one that has something.
func (p kind) slot(s *numbers, k *exomem.Kernel, env int) int {
	var l []int
	for slot := 1; slot <= api.MaxCaps; slot++ {
		if k.Refs(env, slot) > 0 {
			l = append(l, slot)
		}
	}
	switch {
	case s.next(24) == 0:
		return []int{-1, 0, 65}[s.next(3)]
	case len(l) == 0 || s.next(10) == 0:
		return 1 + s.next(p.slots)
	}
	return l[s.next(len(l))]
}

// make makes a call that is mostly not refused.
func (p kind) make(s *numbers, k *exomem.Kernel) call {
	c := call{name: p.names[s.next(len(p.names))], env: p.env(s), v: uint64(1 + s.next(1000))}
	for range 20 { // one that has something, but for Alloc
		if c.name != "Alloc" && k.Refs(c.env, 1) == 0 {
			c.env = p.env(s)
		}
	}
	c.a = p.slot(s, k, c.env)
	switch c.name {
	case "Grant":
		c.b, c.c = p.env(s), s.next(10)-1
		for range 6 { // one that may be given, of which those that can be given on make more
			if _, e := k.Grant(c.env, c.a, -1, c.c); e == api.ErrCap {
				c.c = 4 + s.next(4)
			}
		}
	case "Map", "Unmap":
		c.a, c.b, c.writable = s.next(api.MaxPages), c.a, s.next(2) == 0
		if s.next(24) == 0 {
			c.a = []int{-1, 4}[s.next(2)]
		}
	case "Load", "Store":
		c.addr = uint64(s.next(130))
		for range 4 {
			if _, mapped := k.Page(c.env, int(c.addr/32)); !mapped {
				c.addr = uint64(s.next(130))
			}
		}
	case "Copy":
		c.b = p.slot(s, k, c.env)
	case "Read", "Write":
		c.b = s.next(34) - 1
	}
	return c
}

// 9.1 to 9.3: runs of calls answer what the model answers, and leave what it leaves.
func TestAgainstTheModel(t *testing.T) {
	for n, p := range kinds() {
		seen := map[api.Errno]int{}
		for seed := range 3 {
			s := numbers(1000*n + seed)
			k, m := fresh(t, p.frames), newModel(p.frames)
			for range 150 {
				c := p.make(&s, k)
				got, want := c.on(k), m.do(c)
				if got != want {
					t.Fatalf("%v answers %v, want %v", c, got, want)
				}
				wantSame(t, c, look(p.frames, doer(k)), look(p.frames, m.do))
				seen[got.e]++
			}
		}
		if p.slots == api.MaxCaps && seen[api.ErrFull] == 0 || slices.Min([]int{seen[api.OK] / 150, seen[api.ErrArg], seen[api.ErrCap], seen[api.ErrNone], seen[api.ErrFault], seen[api.ErrProt]}) == 0 {
			t.Errorf("kind %d: the calls do not try enough: %v", n, seen)
		}
	}
}

// mayWrite tells whether the environment has a capability with RightWrite for the frame.
func (m *model) mayWrite(env, frame int) bool {
	return slices.ContainsFunc(m.all, func(x *made) bool { return !x.gone && x.env == env && x.frame == frame && x.rights&2 == 2 })
}

// 9.4: environment 11 watches frames that it has given on; a word of them changes only by a call of one who may write that frame.
func TestOnlyWhoMayWriteChangesWords(t *testing.T) {
	const watched = 6
	changes := 0
	for n, p := range kinds() {
		p.names = append(p.names, "Map", "Map", "Store", "Store", "Write", "Copy")
		for seed := range 6 {
			s := numbers(77*n + seed)
			k, m := fresh(t, watched+2), newModel(watched+2)
			both := func(c call) answer {
				m.do(c)
				return c.on(k)
			}
			for frame := range watched {
				both(alloc(11))
				both(write(11, frame+1, frame, 1))
				both(grant(11, frame+1, s.next(min(p.envs, 11)), 1+s.next(all)))
				both(grant(11, frame+1, s.next(min(p.envs, 11)), 4+s.next(4)))
			}
			for range 150 {
				c := p.make(&s, k)
				if c.env == 11 {
					continue
				}
				was, may := watch(k, watched), [watched]bool{}
				for frame := range may {
					may[frame] = m.mayWrite(c.env, frame)
				}
				both(c)
				for frame, is := range watch(k, watched) {
					if !slices.Equal(is, was[frame]) {
						changes++
						if !may[frame] {
							t.Fatalf("%v changed frame %d", c, frame)
						}
					}
				}
			}
		}
	}
	if changes < 100 {
		t.Errorf("only %d changes were made", changes)
	}
}

// watch reads the frames that environment 11 has in its first slots.
func watch(k *exomem.Kernel, n int) [][]uint64 {
	l := make([][]uint64, n)
	for frame := range l {
		for word := range api.PageWords {
			v, _ := k.Read(11, frame+1, word)
			l[frame] = append(l[frame], v)
		}
	}
	return l
}

// 9.4: one who lacks RightWrite changes no word, whatever single call it makes.
func TestNoCallWithoutTheRight(t *testing.T) {
	for _, rights := range []int{0, r, g, r | g} {
		var setup []step
		for slot := 1; slot <= 2; slot++ {
			setup = append(setup, alloc(1).is(slot), write(1, slot, 0, uint64(slot)).ok(), write(1, slot, 31, uint64(slot)).ok())
			if rights > 0 {
				setup = append(setup, grant(1, slot, 2, rights).is(slot))
			}
		}
		for slot := 0; slot <= 3; slot++ {
			for page := -1; page <= 4; page++ {
				for _, c := range everyCall(2, slot, page, page, uint64(page*32)) {
					k := play(t, 3, setup...)
					k.Map(2, 0, 1, true)
					k.Map(2, 1, 1, false)
					k.Map(2, 2, 2, false)
					c.on(k)
					c.on(k)
					k.Copy(2, 1, 2)
					k.Copy(2, 2, 1)
					for own := 1; own <= 2; own++ {
						wantAnswer(t, k, read(1, own, 0).word(uint64(own)))
						wantAnswer(t, k, read(1, own, 31).word(uint64(own)))
						wantAnswer(t, k, read(1, own, 7).word(0))
					}
				}
			}
		}
	}
}

// T4: what one sees does not change by calls of one that no capability joins with it.
func TestApart(t *testing.T) {
	for n, p := range kinds() {
		for seed := range 3 {
			s := numbers(313*n + seed)
			k := fresh(t, p.frames+3)
			wantAnswer(t, k, alloc(11).is(1))
			wantAnswer(t, k, alloc(11).is(2))
			wantAnswer(t, k, write(11, 1, 9, 99).ok())
			wantAnswer(t, k, mapWrite(11, 0, 1).ok())
			wantAnswer(t, k, mapRead(11, 3, 2).ok())
			was := seen(look(p.frames+3, doer(k)), 11)
			for range 150 {
				if c := p.make(&s, k); c.env != 11 && (c.name != "Grant" || c.b != 11) {
					c.on(k)
					wantSame(t, c, seen(look(p.frames+3, doer(k)), 11), was)
				}
			}
		}
	}
}

// seen is what of all that is told an environment sees by itself.
func seen(l []told, env int) []told {
	return slices.DeleteFunc(l, func(x told) bool { return x.name == "Left" || x.env != env })
}

// T7: whatever was done, behind Gone of all of them each frame is free, and all 0 when it is had again.
func TestNoLeak(t *testing.T) {
	for n, p := range kinds() {
		for seed := range 3 {
			s := numbers(99*n + seed)
			k := fresh(t, p.frames)
			for range 200 {
				p.make(&s, k).on(k)
			}
			for i := range api.MaxEnvs {
				k.Gone((i + seed) % api.MaxEnvs)
			}
			wantSame(t, gone(0), look(p.frames, doer(k)), look(p.frames, doer(fresh(t, p.frames))))
			for frame := range p.frames {
				wantAnswer(t, k, alloc(4).is(frame+1))
				wantAnswer(t, k, slotOf(4, frame).is(frame+1))
				for word := range api.PageWords {
					wantAnswer(t, k, read(4, frame+1, word).word(0))
				}
			}
			wantAnswer(t, k, alloc(4).fails(api.ErrNone))
		}
	}
}

// R5: the same calls answer the same each time.
func TestTheSameAgain(t *testing.T) {
	for n, p := range kinds() {
		run := func() ([]answer, []told) {
			s, k := numbers(31+n), fresh(t, p.frames)
			var l []answer
			for range 200 {
				l = append(l, p.make(&s, k).on(k))
			}
			return l, look(p.frames, doer(k))
		}
		first, told := run()
		second, again := run()
		if !slices.Equal(first, second) {
			t.Errorf("kind %d: the answers were %v, then %v", n, first, second)
		}
		wantSame(t, call{}, again, told)
	}
}
