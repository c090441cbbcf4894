package exodisk_test

import (
	"slices"
	"testing"

	"janus/api"
)

// made is a capability of the model. One that is gone stays as a link of the chain, so that nothing is handed over.
type made struct {
	env, slot, first, n, rights int
	of                          *made
	gone                        bool
}

func (x *made) isBelow(y *made) bool {
	for x = x.of; x != nil; x = x.of {
		if x == y {
			return true
		}
	}
	return false
}

// model is the chapter once more: a list of all capabilities that there ever were, and what each block was given last. A View is no thing of its own: it is asked by its slot.
type model struct {
	all              []*made
	disk, put        [][]uint64
	there, isChanged []bool
}

func newModel(blocks int) *model {
	m := &model{there: make([]bool, blocks), isChanged: make([]bool, blocks)}
	for range blocks {
		m.disk, m.put = append(m.disk, zeros()), append(m.put, zeros())
	}
	return m
}

func (m *model) has(env, slot int) *made {
	for _, x := range m.all {
		if !x.gone && x.env == env && x.slot == slot {
			return x
		}
	}
	return nil
}

func (m *model) add(env, first, n, rights int, of *made) answer {
	for slot := 1; slot <= 64; slot++ {
		if m.has(env, slot) == nil {
			m.all = append(m.all, &made{env, slot, first, n, rights, of, false})
			return answer{n: slot}
		}
	}
	return answer{e: api.ErrFull}
}

func noEnv(env int) bool { return env < 0 || env > 11 }

// do answers what the call should answer.
func (m *model) do(c call) (x answer) {
	switch c.name {
	case "Alloc":
		return m.alloc(c.env, c.a, c.b)
	case "Grant":
		return m.grant(c.env, c.a, c.b, c.c)
	case "Revoke":
		of := m.has(c.env, c.a)
		if of == nil {
			return answer{e: api.ErrCap}
		}
		m.end(func(x *made) bool { return x.isBelow(of) })
	case "Gone":
		m.end(func(x *made) bool { return x.env == c.env })
	case "Get", "Put":
		return m.move(c, c.b, c.name == "Put")
	case "View.Get", "View.Put":
		return m.byView(c)
	case "Sync":
		x.n = m.sync()
	case "Cached":
		x.list = m.cached()
	case "Disk":
		if c.b >= 0 && c.b < len(m.disk) {
			x.words = m.disk[c.b]
		}
	}
	return x
}

func (m *model) end(ends func(*made) bool) {
	for _, x := range m.all {
		x.gone = x.gone || ends(x)
	}
}

// alloc looks at each block alone: whether there is such a block, and whether somebody has it.
func (m *model) alloc(env, first, n int) answer {
	if noEnv(env) || n < 1 || n > len(m.disk) || first < 0 || first >= len(m.disk) || first+n > len(m.disk) {
		return answer{e: api.ErrArg}
	}
	for block := first; block < first+n; block++ {
		if slices.ContainsFunc(m.all, func(x *made) bool { return x.holds(block) }) {
			return answer{e: api.ErrCap}
		}
	}
	return m.add(env, first, n, 7, nil)
}

func (x *made) holds(block int) bool {
	return !x.gone && block >= x.first && block < x.first+x.n
}

func (m *model) grant(env, slot, to, rights int) answer {
	x := m.has(env, slot)
	if x == nil || x.rights < 4 || rights < 1 || rights > 7 || x.rights|rights != x.rights {
		return answer{e: api.ErrCap}
	}
	if noEnv(to) {
		return answer{e: api.ErrArg}
	}
	return m.add(to, x.first, x.n, rights, x)
}

// may tells whether the slot has the right.
func (m *model) may(env, slot int, isPut bool) *made {
	need := map[bool]int{false: 1, true: 2}[isPut]
	if x := m.has(env, slot); x != nil && x.rights&need == need {
		return x
	}
	return nil
}

// move is Get, or Put, of a block of the disk.
func (m *model) move(c call, block int, isPut bool) answer {
	x := m.may(c.env, c.a, isPut)
	switch {
	case x == nil || !x.holds(block):
		return answer{e: api.ErrCap}
	case isPut && len(c.words) != 32:
		return answer{e: api.ErrArg}
	case isPut:
		m.put[block], m.isChanged[block] = slices.Clone(c.words), true
	}
	m.there[block] = true
	if isPut {
		return answer{}
	}
	return answer{words: m.put[block]}
}

func (m *model) byView(c call) answer {
	isPut := c.name == "View.Put"
	x := m.may(c.env, c.a, isPut)
	if x == nil {
		return answer{e: api.ErrCap}
	}
	if c.b < 0 || c.b >= x.n {
		return answer{e: api.ErrArg}
	}
	return m.move(c, x.first+c.b, isPut)
}

func (m *model) sync() int {
	n := 0
	for block, is := range m.isChanged {
		if is {
			n++
			m.disk[block], m.isChanged[block] = slices.Clone(m.put[block]), false
		}
	}
	return n
}

func (m *model) cached() []int {
	var l []int
	for block, is := range m.there {
		if is {
			l = append(l, block)
		}
	}
	return l
}

// dice throws the same numbers in every run.
type dice uint64

func (d *dice) below(n int) int {
	*d = *d*6364136223846793005 + 1442695040888963407
	return int(uint64(*d>>33) % uint64(n))
}

func pickOf[T any](d *dice, l []T) T { return l[d.below(len(l))] }

// kind is how a row of calls is drawn: of how many blocks, of which environments, and how many of 100 calls take something away.
type kind struct {
	blocks, takes int
	envs          []int
	ahead         []call
}

func kinds() []kind {
	return []kind{
		{blocks: 6, takes: 8, envs: []int{0, 3, lastEnv}},
		{blocks: 1, takes: 10, envs: []int{1, 2, 3, 4}},
		{blocks: 12, takes: 3, envs: []int{0, 1, 2, 3, 4, 5, 6, 7, 8, 9, 10, 11}},
		{blocks: 24, takes: 5, envs: []int{2, 9}},
		{blocks: 20, envs: []int{5}, ahead: append([]call{alloc(5, 3, 2)}, slices.Repeat([]call{grant(5, 1, 5, all)}, 50)...)}, // its slots are soon all in use
	}
}

func (p kind) env(d *dice) int {
	if d.below(30) == 0 {
		return pickOf(d, noEnvs())
	}
	return pickOf(d, p.envs)
}

// block is mostly one of the disk's, seldom none.
func (p kind) block(d *dice) int {
	switch d.below(30) {
	case 0:
		return pickOf(d, far())
	case 1:
		return []int{-1, p.blocks}[d.below(2)]
	}
	return d.below(p.blocks)
}

// words begins with the tag, so that no two lists are alike.
func (d *dice) words(tag int) []uint64 {
	if d.below(20) == 0 {
		return pickOf(d, wrongWords()[:6])
	}
	return words(uint64(tag + 1))
}

// held is a slot that has something, if the environment has one; and its extent.
func (p kind) held(d *dice, m *model, env int) made {
	var l []made
	for _, x := range m.all {
		if !x.gone && x.env == env {
			l = append(l, *x)
		}
	}
	if len(l) == 0 || d.below(12) == 0 {
		return made{slot: pickOf(d, append(noSlots(), 1, 1, 2, 3, api.MaxCaps)), n: 1, rights: all}
	}
	return pickOf(d, l)
}

// call is mostly one that is not refused.
func (p kind) call(d *dice, m *model, tag int) call {
	env := p.env(d)
	for range 5 { // one that has something, if there is one
		if m.has(env, 1) == nil {
			env = p.env(d)
		}
	}
	x := p.held(d, m, env)
	block, at := p.block(d), p.block(d)
	if d.below(6) > 0 {
		block, at = x.first+d.below(x.n), d.below(x.n)
	}
	if d.below(100) < p.takes {
		return []call{gone(env), revoke(env, x.slot), revoke(env, x.slot)}[d.below(3)]
	}
	switch d.below(20) {
	case 0, 1:
		return alloc(p.env(d), p.block(d), 1+d.below(1+p.blocks/3))
	case 2:
		return alloc(p.env(d), p.block(d), pickOf(d, []int{1, 1, 1, p.blocks, p.block(d)}))
	case 3, 4:
		return grant(env, x.slot, p.env(d), pickOf(d, append(noRights(), x.rights, x.rights, x.rights, x.rights&3, x.rights&5, x.rights&6, r, w, g, all)))
	case 5:
		return sync()
	case 6:
		return []call{cached(), disk(p.block(d))}[d.below(2)]
	case 7, 8, 9, 10:
		return get(env, x.slot, block)
	case 11, 12, 13:
		return viewGet(env, x.slot, at)
	case 14, 15, 16, 17:
		return put(env, x.slot, block, d.words(tag))
	}
	return viewPut(env, x.slot, at, d.words(tag))
}

// askedFor is a kernel of which all Views were asked for at its beginning.
func askedFor(t *testing.T, p kind) *machine {
	t.Helper()
	k := fresh(t, p.blocks)
	for _, env := range p.envs {
		for slot := 1; slot <= api.MaxCaps; slot++ {
			view(env, slot).on(k)
		}
	}
	return k
}

// 12.1 to 12.3: rows of calls answer what the model answers, and leave what it leaves; whether a View was asked for ahead of all or just now.
func TestAgainstTheModel(t *testing.T) {
	full := 0
	for n, p := range kinds() {
		seen := map[api.Errno]int{}
		for seed := range 40 {
			d := dice(1000*n + seed)
			k, m := fresh(t, p.blocks), newModel(p.blocks)
			if seed%2 == 0 {
				k = askedFor(t, p)
			}
			for i := range 300 {
				c := p.call(&d, m, i)
				if i < len(p.ahead) {
					c = p.ahead[i]
				}
				want := m.do(c)
				seen[want.e]++
				if got := c.on(k); !got.same(want) {
					t.Fatalf("kind %d, seed %d, call %d: %v answers %v, want %v", n, seed, i, c, got, want)
				}
				wantLikeModel(t, k, m)
			}
		}
		if seen[api.OK] < 5000 || seen[api.ErrArg] < 300 || seen[api.ErrCap] < 300 {
			t.Errorf("kind %d: the calls do not try enough: %v", n, seen)
		}
		full += seen[api.ErrFull]
	}
	if full < 100 {
		t.Errorf("only %d calls found no free slot", full)
	}
}

// wantLikeModel asks what can be asked without a change.
func wantLikeModel(t *testing.T, k *machine, m *model) {
	t.Helper()
	asks := []call{cached()}
	for block := range m.disk {
		asks = append(asks, disk(block))
	}
	for _, x := range m.all {
		asks = append(asks, grant(x.env, x.slot, -1, r), grant(x.env, x.slot, -1, w), put(x.env, x.slot, x.first, nil), viewPut(x.env, x.slot, x.n-1, nil), viewGet(x.env, x.slot, x.n))
		if len(asks) > 60 {
			break
		}
	}
	for _, c := range asks {
		if got, want := c.on(k), m.do(c); !got.same(want) {
			t.Fatalf("%v answers %v, want %v", c, got, want)
		}
	}
}

// few is the calls of two environments on two blocks that change something; what is put is told apart by where in the row it is.
func few(at int) []call {
	l := []call{sync()}
	for env := range 2 {
		l = append(l, alloc(env, 0, 1), alloc(env, 1, 1), alloc(env, 0, 2), grant(env, 1, 1, all), grant(env, 1, 1-env, r), revoke(env, 1), gone(env))
		l = append(l, get(env, 1, 1), put(env, 1, 0, words(uint64(at+1))), viewPut(env, 1, 1, words(uint64(at+1))), viewGet(env, 2, 0))
	}
	return l
}

// TestAllShortRows makes all rows of three calls, on a kernel that is new and on ones to which something was done.
func TestAllShortRows(t *testing.T) {
	for _, ahead := range [][]call{
		nil,
		{alloc(0, 0, 2), put(0, 1, 0, words(70))},
		{alloc(0, 1, 1), grant(0, 1, 1, all), grant(1, 1, 0, r|w), put(0, 2, 1, words(71)), sync(), alloc(1, 0, 1)},
	} {
		choices := [][]call{few(0), few(1), few(2)}
		for row := range len(choices[0]) * len(choices[1]) * len(choices[2]) {
			calls, left := slices.Clone(ahead), row
			for _, l := range choices {
				calls = append(calls, l[left%len(l)])
				left /= len(l)
			}
			wantRow(t, append(calls, cached(), disk(0), disk(1), sync(), disk(0), disk(1)))
		}
	}
}

func wantRow(t *testing.T, calls []call) {
	t.Helper()
	k, m := fresh(t, 2), newModel(2)
	for i, c := range calls {
		if got, want := c.on(k), m.do(c); !got.same(want) {
			t.Fatalf("behind %v: %v answers %v, want %v", calls[:i], c, got, want)
		}
	}
}

// mayWrite tells whether the environment has a capability with RightWrite for the block.
func (m *model) mayWrite(env, block int) bool {
	return slices.ContainsFunc(m.all, func(x *made) bool { return x.env == env && x.holds(block) && x.rights&2 == 2 })
}

// shared is a kernel in which environment 11 has all blocks but the last two, each in a slot of its own, and has given most of them on.
func shared(t *testing.T, d *dice, p kind) (*machine, *model) {
	t.Helper()
	k, m := fresh(t, p.blocks), newModel(p.blocks)
	for block := range p.blocks - 2 {
		for _, c := range []call{alloc(11, block, 1), put(11, block+1, block, words(uint64(block))), grant(11, block+1, d.below(4), 1+d.below(all)), grant(11, block+1, d.below(4), 4+d.below(4))} {
			m.do(c)
			c.on(k)
		}
	}
	return k, m
}

// watch gets the blocks that environment 11 has.
func watch(t *testing.T, k *machine, blocks int) [][]uint64 {
	t.Helper()
	var l [][]uint64
	for block := range blocks - 2 {
		got, e := k.Get(11, block+1, block)
		if e != api.OK {
			t.Fatalf("Get(11, %d, %d) answers error %d", block+1, block, e)
		}
		l = append(l, got)
	}
	return l
}

// 12.4: environment 11 watches blocks that it has given on; one of them changes only by a call of one who may write it, and what the disk has only by Sync.
func TestOnlyWhoMayWriteChangesBlocks(t *testing.T) {
	changes := 0
	p := kind{blocks: 10, takes: 4, envs: []int{0, 1, 2, 3, 4}}
	for seed := range 60 {
		d := dice(77 + seed)
		k, m := shared(t, &d, p)
		for i := range 200 {
			c := p.call(&d, m, i+100)
			if c.env == 11 {
				continue
			}
			was, written := watch(t, k, p.blocks), onDisk(k, p.blocks)
			var may []bool
			for block := range p.blocks {
				may = append(may, m.mayWrite(c.env, block))
			}
			m.do(c)
			c.on(k)
			for block, is := range watch(t, k, p.blocks) {
				if !slices.Equal(is, was[block]) {
					changes++
					if !may[block] || c.name == "Sync" {
						t.Fatalf("%v changed block %d", c, block)
					}
				}
			}
			if is := onDisk(k, p.blocks); c.name != "Sync" && !slices.EqualFunc(is, written, slices.Equal) {
				t.Fatalf("%v changed the disk", c)
			}
		}
	}
	if changes < 500 {
		t.Errorf("only %d changes were made", changes)
	}
}

func onDisk(k *machine, blocks int) [][]uint64 {
	var l [][]uint64
	for block := range blocks {
		l = append(l, k.Disk(block))
	}
	return l
}

// 12.4: what was put last is got, whatever is done between, by whoever may read it.
func TestWhatWasPutLastIsGot(t *testing.T) {
	p := kind{blocks: 10, takes: 4, envs: []int{0, 1, 2, 3, 4}}
	for seed := range 30 {
		d := dice(770 + seed)
		k, m := shared(t, &d, p)
		last := make([][]uint64, p.blocks)
		for block := range last {
			last[block] = zeros()
			if block < p.blocks-2 {
				last[block] = words(uint64(block))
			}
		}
		for i := range 300 {
			c := p.call(&d, m, i+100)
			x := m.has(c.env, c.a)
			m.do(c)
			got := c.on(k)
			if got.e != api.OK || x == nil {
				continue
			}
			switch c.name {
			case "Put":
				last[c.b] = c.words
			case "View.Put":
				last[x.first+c.b] = c.words
			case "Get":
				wantWords(t, "Get", got.words, last[c.b])
			case "View.Get":
				wantWords(t, "Get of a View", got.words, last[x.first+c.b])
			}
		}
	}
}

// T4: what one sees does not change by calls of those that no capability joins with it.
func TestApart(t *testing.T) {
	p := kind{blocks: 10, takes: 6, envs: []int{0, 1, 2, 3, 4}}
	for seed := range 30 {
		d := dice(7700 + seed)
		k, m := fresh(t, p.blocks), newModel(p.blocks)
		for _, c := range []call{alloc(11, 2, 2), alloc(11, 7, 1), put(11, 1, 2, words(2)), put(11, 2, 7, words(7)), grant(11, 1, 11, r)} {
			m.do(c)
			c.on(k)
		}
		sees := []step{get(11, 1, 2).has(words(2)), get(11, 3, 3).has(zeros()), get(11, 2, 7).has(words(7)), viewGet(11, 3, 0).has(words(2)), put(11, 1, 2, nil).fails(api.ErrArg), put(11, 3, 2, nil).fails(api.ErrCap), get(11, 4, 2).fails(api.ErrCap)}
		for i := range 150 {
			c := p.call(&d, m, i)
			if c.env == 11 || c.name == "Grant" && c.b == 11 {
				continue
			}
			m.do(c)
			c.on(k)
			for _, s := range sees {
				wantAnswer(t, k, s)
			}
		}
	}
}

// R5: the same calls answer the same each time, whatever was done to others.
func TestSameCallsAnswerTheSame(t *testing.T) {
	for n, p := range kinds() {
		d := dice(31 + n)
		a, b, other, m := fresh(t, p.blocks), fresh(t, p.blocks), fresh(t, p.blocks), newModel(p.blocks)
		for i := range 300 {
			c := p.call(&d, m, i)
			m.do(c)
			p.call(&d, m, i).on(other)
			if got, want := c.on(a), c.on(b); !got.same(want) {
				t.Fatalf("kind %d: %v answers %v and %v", n, c, got, want)
			}
		}
		wantSame(t, p.blocks, call{}, a, b)
	}
}

// R2: of drawn calls, too, those that are refused are told by no later call.
func TestRefusedCallsAreNotTold(t *testing.T) {
	for n, p := range kinds() {
		for seed := range 6 {
			d := dice(500*n + seed)
			a, b, m := fresh(t, p.blocks), fresh(t, p.blocks), newModel(p.blocks)
			for i := range 150 {
				c := p.call(&d, m, i)
				if m.do(c).e == api.OK {
					c.on(b)
				}
				c.on(a)
			}
			wantSame(t, p.blocks, call{}, a, b)
		}
	}
}
