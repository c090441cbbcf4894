package exo_test

import (
	"slices"
	"strings"

	"janus/api"
)

// The kinds of capabilities of the model.
const (
	frameKind = iota
	extentKind
)

// made is a capability of the model. One that is gone stays as a link of the chain, so that nothing is handed over.
type made struct {
	kind, env, slot, id, n, have int
	of                           *made
	gone                         bool
}

func (x *made) isBelow(y *made) bool {
	for x = x.of; x != nil; x = x.of {
		if x == y {
			return true
		}
	}
	return false
}

func (x *made) holds(kind int, id int) bool {
	return !x.gone && x.kind == kind && id >= x.id && id < x.id+x.n
}

// model is the chapter once more: a list of all capabilities that there ever were, the words of each frame and block, pages, and messages.
type model struct {
	size
	caps         []*made
	memory, disk [][]uint64
	pages        [api.MaxEnvs][4]*api.Page
	waiting      [api.MaxEnvs][][]uint64
}

func newModel(s size) *model {
	m := &model{size: s}
	for range s.frames {
		m.memory = append(m.memory, zeros())
	}
	for range s.blocks {
		m.disk = append(m.disk, zeros())
	}
	return m
}

func (m *model) lives(env int) bool { return slices.Contains(m.live, env) }

func (m *model) has(kind int, env, slot int) *made {
	for _, x := range m.caps {
		if !x.gone && x.kind == kind && x.env == env && x.slot == slot {
			return x
		}
	}
	return nil
}

// with is the capability in a slot, if it has all these rights.
func (m *model) with(kind int, env, slot, rights int) *made {
	if x := m.has(kind, env, slot); x != nil && x.have&rights == rights {
		return x
	}
	return nil
}

func (m *model) add(kind int, env, id, n, rights int, of *made) answer {
	for slot := 1; slot <= 64; slot++ {
		if m.has(kind, env, slot) == nil {
			m.caps = append(m.caps, &made{kind, env, slot, id, n, rights, of, false})
			return answer{words: []uint64{uint64(slot)}}
		}
	}
	return answer{e: api.ErrFull}
}

// chapter is the calls as it lists them: what stands behind each number.
func chapter() []string {
	return []string{
		"", "slot to rights", "slot", "slot", "page slot w", "page", "v", "v v", "to from", "slot word", "slot word v",
		"to" + strings.Repeat(" v", 8), "", "first n", "slot to rights", "slot", "slot block", "slot block" + strings.Repeat(" v", 32),
	}
}

// read tells the words of a call by what the chapter names them, if it may be; those named v are told apart.
func (m *model) read(c call) (map[string]int, []uint64, bool) {
	if !m.lives(c.env) || len(c.words) == 0 || c.words[0] > 17 {
		return nil, nil, false
	}
	names := strings.Fields(chapter()[c.words[0]])
	behind := c.words[1:]
	if c.words[0] == 11 && len(behind) > 0 && len(behind) < len(names) {
		names = names[:len(behind)]
	}
	if len(names) != len(behind) {
		return nil, nil, false
	}
	small, values := map[string]int{}, []uint64(nil)
	for i, name := range names {
		if name == "v" {
			values = append(values, behind[i])
		} else if behind[i] >= 2147483648 {
			return nil, nil, false
		} else {
			small[name] = int(behind[i])
		}
	}
	return small, values, true
}

// do answers what the call should answer.
func (m *model) do(c call) answer {
	x, v, ok := m.read(c)
	if !ok {
		return answer{e: api.ErrArg}
	}
	switch c.words[0] {
	case 0:
		return m.alloc(c.env)
	case 1:
		return m.grant(frameKind, c.env, x["slot"], x["to"], x["rights"])
	case 2, 3:
		return m.take(frameKind, c.env, x["slot"], c.words[0] == 2)
	case 4, 5:
		return m.page(c.env, c.words[0] == 4, x)
	case 6:
		return m.byAddress(c.env, v[0], nil)
	case 7:
		return m.byAddress(c.env, v[0], v[1:])
	case 8, 9, 10:
		return m.bySlot(c, x, v)
	case 11:
		return m.send(c.env, x["to"], v)
	case 12:
		return m.recv(c.env)
	case 13:
		return m.allocBlocks(c.env, x["first"], x["n"])
	case 14:
		return m.grant(extentKind, c.env, x["slot"], x["to"], x["rights"])
	case 15:
		return m.take(extentKind, c.env, x["slot"], false)
	}
	return m.block(c.env, x["slot"], x["block"], v)
}

func (m *model) anybodyHas(kind int, id int) bool {
	return slices.ContainsFunc(m.caps, func(x *made) bool { return x.holds(kind, id) })
}

func (m *model) alloc(env int) answer {
	for frame := range m.memory {
		if !m.anybodyHas(frameKind, frame) {
			x := m.add(frameKind, env, frame, 1, 7, nil)
			if x.e == api.OK {
				m.memory[frame] = zeros()
			}
			return x
		}
	}
	return answer{e: api.ErrNone}
}

func (m *model) allocBlocks(env, first, n int) answer {
	if n < 1 || first+n > len(m.disk) {
		return answer{e: api.ErrArg}
	}
	for block := first; block < first+n; block++ {
		if m.anybodyHas(extentKind, block) {
			return answer{e: api.ErrCap}
		}
	}
	return m.add(extentKind, env, first, n, 7, nil)
}

func (m *model) grant(kind int, env, slot, to, rights int) answer {
	if !m.lives(to) {
		return answer{e: api.ErrArg}
	}
	x := m.with(kind, env, slot, 4)
	if x == nil || rights < 1 || rights > 7 || x.have|rights != x.have {
		return answer{e: api.ErrCap}
	}
	return m.add(kind, to, x.id, x.n, rights, x)
}

// take is Free, or Revoke.
func (m *model) take(kind int, env, slot int, itself bool) answer {
	x := m.has(kind, env, slot)
	if x == nil {
		return answer{e: api.ErrCap}
	}
	for _, y := range m.caps {
		if itself && y == x || !itself && y.isBelow(x) {
			y.gone = true
		}
	}
	m.unmapLost()
	return answer{}
}

func (m *model) unmapLost() {
	for env := range m.pages {
		for page, p := range m.pages[env] {
			if p != nil && !slices.ContainsFunc(m.caps, func(x *made) bool {
				return x.env == env && x.holds(frameKind, p.Frame) && (x.have&3 == 3 || !p.Writable && x.have&1 == 1)
			}) {
				m.pages[env][page] = nil
			}
		}
	}
}

// page is Map, or Unmap.
func (m *model) page(env int, maps bool, x map[string]int) answer {
	page, writable := x["page"], x["w"]
	if page > 3 || writable > 1 {
		return answer{e: api.ErrArg}
	}
	if !maps {
		if m.pages[env][page] == nil {
			return answer{e: api.ErrFault}
		}
		m.pages[env][page] = nil
		return answer{}
	}
	y := m.with(frameKind, env, x["slot"], 1+2*writable)
	if y == nil {
		return answer{e: api.ErrCap}
	}
	m.pages[env][page] = &api.Page{Frame: y.id, Writable: writable == 1}
	return answer{}
}

// byAddress is Load, or with a word to be stored Store.
func (m *model) byAddress(env int, addr uint64, v []uint64) answer {
	if addr > 127 || m.pages[env][addr/32] == nil {
		return answer{e: api.ErrFault}
	}
	p := m.pages[env][addr/32]
	if len(v) == 0 {
		return answer{words: []uint64{m.memory[p.Frame][addr%32]}}
	}
	if !p.Writable {
		return answer{e: api.ErrProt}
	}
	m.memory[p.Frame][addr%32] = v[0]
	return answer{}
}

// bySlot is Copy, Read and Write.
func (m *model) bySlot(c call, x map[string]int, v []uint64) answer {
	if c.words[0] == 8 {
		to, from := m.with(frameKind, c.env, x["to"], 2), m.with(frameKind, c.env, x["from"], 1)
		if to == nil || from == nil {
			return answer{e: api.ErrCap}
		}
		m.memory[to.id] = slices.Clone(m.memory[from.id])
		return answer{}
	}
	y := m.with(frameKind, c.env, x["slot"], map[uint64]int{9: 1, 10: 2}[c.words[0]])
	if y == nil {
		return answer{e: api.ErrCap}
	}
	if x["word"] > 31 {
		return answer{e: api.ErrArg}
	}
	if c.words[0] == 9 {
		return answer{words: []uint64{m.memory[y.id][x["word"]]}}
	}
	m.memory[y.id][x["word"]] = v[0]
	return answer{}
}

func (m *model) send(env, to int, v []uint64) answer {
	if !m.lives(to) {
		return answer{e: api.ErrArg}
	}
	if len(m.waiting[to]) == 4 {
		return answer{e: api.ErrFull}
	}
	m.waiting[to] = append(m.waiting[to], append([]uint64{uint64(env)}, v...))
	return answer{}
}

func (m *model) recv(env int) answer {
	if len(m.waiting[env]) == 0 {
		return answer{e: api.ErrNone}
	}
	eldest := m.waiting[env][0]
	m.waiting[env] = m.waiting[env][1:]
	return answer{words: eldest}
}

// block is Get, or with words to be put Put.
func (m *model) block(env, slot, block int, v []uint64) answer {
	right := 1
	if len(v) > 0 {
		right = 2
	}
	x := m.with(extentKind, env, slot, right)
	if x == nil || !x.holds(extentKind, block) {
		return answer{e: api.ErrCap}
	}
	if len(v) == 0 {
		return answer{words: slices.Clone(m.disk[block])}
	}
	m.disk[block] = slices.Clone(v)
	return answer{}
}

// look is what should be seen from outside.
func (m *model) look() []sight {
	var l []sight
	for env := -1; env <= 12; env++ {
		l = append(l, sight{"Sees", env, m.sees(env)})
	}
	for _, x := range []struct {
		what string
		rows [][]uint64
	}{{"Frame", m.memory}, {"Block", m.disk}} {
		l = append(l, sight{x.what, -1, nil})
		for at, row := range x.rows {
			l = append(l, sight{x.what, at, row})
		}
		l = append(l, sight{x.what, len(x.rows), nil})
	}
	return l
}

func (m *model) sees(env int) []uint64 {
	if !m.lives(env) {
		return nil
	}
	s := []uint64{1}
	for _, x := range m.bySlots(frameKind, env) {
		s = append(append(s, uint64(x.slot), uint64(x.id), uint64(x.have)), m.memory[x.id]...)
	}
	for page, p := range m.pages[env] {
		if p != nil {
			s = append(s, uint64(page), uint64(p.Frame), map[bool]uint64{true: 1}[p.Writable])
		}
	}
	for _, x := range m.bySlots(extentKind, env) {
		s = append(append(s, uint64(x.slot), uint64(x.id), uint64(x.n), uint64(x.have)), slices.Concat(m.disk[x.id:x.id+x.n]...)...)
	}
	return append(s, uint64(len(m.waiting[env])))
}

// bySlots is what the environment has, by rising slots.
func (m *model) bySlots(kind, env int) []*made {
	var l []*made
	for _, x := range m.caps {
		if !x.gone && x.kind == kind && x.env == env {
			l = append(l, x)
		}
	}
	slices.SortFunc(l, func(x, y *made) int { return x.slot - y.slot })
	return l
}
