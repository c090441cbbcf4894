package valid

import (
	"math"
	"slices"
	"strings"
	"testing"

	"janus/api"
)

// The texts of instructions, by the chapter's words, reckoned apart from package code.

func push(n int) string  { return string([]byte{0, byte(n)}) }
func word(n byte) string { return string([]byte{1, n, 0, 0, 0, 0, 0, 0, 0x80}) }
func op(o int) string    { return string([]byte{byte(o)}) }
func jump(at int) string { return string([]byte{21, byte(at), byte(at >> 8)}) }
func zero(at int) string { return string([]byte{22, byte(at), byte(at >> 8)}) }
func sys(n int) string   { return string([]byte{23, byte(n)}) }

func text(parts ...string) string { return strings.Join(parts, "") }

// callArgs is how many numbers each call takes, by its number; 0 is no call.
func callArgs() []int {
	return []int{-1, 1, 0, 2, 1, 3, 1, 3, 3, 1, 1, 2, 2, 4, 4, 2, 2, 0, 0, 0}
}

// ins is an instruction of the model: what it takes and puts (-1: it is a call that is none), and the place it names.
type ins struct {
	at, end     int
	op, arg     int
	takes, puts int
}

// model reads an instruction of a text; false: there is none.
func model(s string, at int) (ins, bool) {
	if at < 0 || at >= len(s) || s[at] > 23 {
		return ins{}, false
	}
	i := ins{at: at, op: int(s[at])}
	i.end = at + []int{2, 9, 1, 1, 1, 1, 1, 1, 1, 1, 1, 1, 1, 1, 1, 1, 1, 1, 1, 1, 1, 3, 3, 2}[i.op]
	if i.end > len(s) {
		return ins{}, false
	}
	i.takes = []int{0, 0, 1, 1, 2, 2, 2, 2, 2, 2, 2, 2, 2, 2, 2, 2, 2, 2, 1, 1, 2, 0, 1, -1}[i.op]
	i.puts = []int{1, 1, 2, 0, 2, 3, 1, 1, 1, 1, 1, 1, 1, 1, 1, 1, 1, 1, 1, 1, 0, 0, 0, 1}[i.op]
	switch i.op {
	case 21, 22:
		i.arg = int(s[at+1]) + 256*int(s[at+2])
	case 23:
		if call := int(s[at+1]); call < len(callArgs()) {
			i.takes = callArgs()[call]
		}
	}
	return i, true
}

// modelAll reads all instructions of a text; false: it can't be read.
func modelAll(s string) ([]ins, bool) {
	var l []ins
	for at := 0; at < len(s); {
		i, ok := model(s, at)
		if !ok {
			return nil, false
		}
		l = append(l, i)
		at = i.end
	}
	return l, true
}

// ways are the places at which a machine may be behind an instruction.
func (i ins) ways() []int {
	switch i.op {
	case 21:
		return []int{i.arg}
	case 22:
		return []int{i.end, i.arg}
	}
	return []int{i.end}
}

// state is a machine's place and how many numbers its stack has.
type state struct{ at, height int }

// follow goes through all states that a machine may come to from byte 0 with an empty stack on, whatever the numbers are;
// it answers them, and why one of them is wrong ("": none is).
func follow(s string) (map[state]int, string) {
	begins := map[int]int{}
	l, _ := modelAll(s)
	for k, i := range l {
		begins[i.at] = k + 1
	}
	seen := map[state]int{}
	for left := []state{{0, 0}}; len(left) > 0; {
		now := left[0]
		left = left[1:]
		if seen[now] > 0 {
			continue
		}
		if begins[now.at] == 0 {
			return seen, "left its instructions"
		}
		if now.height > 32 {
			return seen, "more than 32 numbers"
		}
		seen[now] = 1
		i := l[begins[now.at]-1]
		if now.height < i.takes {
			return seen, "took more than it had"
		}
		for _, at := range i.ways() {
			left = append(left, state{at, now.height - i.takes + i.puts})
		}
	}
	return seen, ""
}

// expected is what the chapter says of a text, reckoned by going through all states; false: it may not be run.
func expected(s string) ([]int, bool) {
	l, ok := modelAll(s)
	if !ok || len(s) < 1 || len(s) > 192 {
		return nil, false
	}
	for _, i := range l {
		named := slices.ContainsFunc(l, func(j ins) bool { return j.at == i.arg })
		if i.takes < 0 || (i.op == 21 || i.op == 22) && !named {
			return nil, false
		}
	}
	seen, wrong := follow(s)
	if wrong != "" {
		return nil, false
	}
	var depths []int
	for _, i := range l {
		d := -1
		for height := range 33 {
			if seen[state{i.at, height}] == 0 {
				continue
			}
			if d >= 0 {
				return nil, false
			}
			d = height
		}
		depths = append(depths, d)
	}
	return depths, true
}

// somePlaces are places in and around a text, and some far off.
func somePlaces(s string) []int {
	l := []int{math.MinInt, math.MinInt + 1, -65536, -256, -2, -1, 256, 65536, 1 << 32, math.MaxInt - 1, math.MaxInt}
	for at := range len(s) + 4 {
		l = append(l, at)
	}
	return l
}

// wantRuns asks that a text may be run, with these depths, and that just its instructions of depth 0 are entries.
func wantRuns(t *testing.T, s string, want ...int) {
	t.Helper()
	if e := Check(s); e != api.OK {
		t.Errorf("Check(%q) = %d, want OK", s, e)
	}
	got, e := Depths(s)
	if e != api.OK || !slices.Equal(got, want) {
		t.Errorf("Depths(%q) = %v, %d, want %v", s, got, e, want)
	}
	l, ok := modelAll(s)
	if !ok || len(l) != len(want) {
		t.Fatalf("%q has %d instructions, but %d depths are wanted", s, len(l), len(want))
	}
	for _, at := range somePlaces(s) {
		k := slices.IndexFunc(l, func(i ins) bool { return i.at == at })
		if entry := k >= 0 && want[k] == 0; Entry(s, at) != entry {
			t.Errorf("Entry(%q, %d) = %v", s, at, !entry)
		}
	}
}

// wantRefused asks that a text may not be run, by all three calls.
func wantRefused(t *testing.T, s string) {
	t.Helper()
	if e := Check(s); e != api.ENOEXEC {
		t.Errorf("Check(%q) = %d, want ENOEXEC", s, e)
	}
	if got, e := Depths(s); e != api.ENOEXEC || len(got) != 0 {
		t.Errorf("Depths(%q) = %v, %d, want ENOEXEC and none", s, got, e)
	}
	for _, at := range []int{math.MinInt, -1, 0, 1, 2, 3, len(s) - 3, len(s) - 1, len(s), len(s) + 1, math.MaxInt} {
		if Entry(s, at) {
			t.Errorf("Entry(%q, %d) of what may not be run", s, at)
		}
	}
}

// many is a number so many times.
func many(n, times int) []int { return slices.Repeat([]int{n}, times) }

// rise is the numbers from 0 to below n.
func rise(n int) []int {
	l := make([]int, n)
	for k := range l {
		l[k] = k
	}
	return l
}

func TestExamples(t *testing.T) {
	wantRuns(t, text(push(0), sys(1), op(api.OpDrop), jump(0)), 0, 1, 1, 0)
	wantRefused(t, op(api.OpDrop))
	wantRefused(t, push(0))
	wantRefused(t, jump(1))
}

// 6.1: no byte, and each byte alone.
func TestShortTexts(t *testing.T) {
	wantRefused(t, "")
	for b := range 256 {
		wantRefused(t, op(b)) // an OpJump is longer, and all others come to the end
	}
	wantRuns(t, jump(0), 0)
}

// 6.1: 1 to 192 bytes, whether the last ones can be reached or not.
func TestLengths(t *testing.T) {
	pair := text(push(7), op(api.OpDrop))
	for _, pairs := range []int{1, 2, 50, 62, 63} { // 63: 192 bytes
		s := text(strings.Repeat(pair, pairs), jump(3*pairs))
		wantRuns(t, s, append(slices.Repeat([]int{0, 1}, pairs), 0)...)
	}
	wantRefused(t, text(strings.Repeat(pair, 62), push(7), op(api.OpNot), op(api.OpDrop), jump(0))) // 193 bytes, of which nothing else is wrong
	wantRefused(t, text(strings.Repeat(pair, 64), jump(0)))
	for n := 3; n <= 192; n++ {
		wantRuns(t, text(jump(0), strings.Repeat(op(api.OpDrop), n-3)), slices.Concat([]int{0}, many(-1, n-3))...)
	}
	for _, n := range []int{193, 194, 195, 255, 256, 257, 259, 384, 1000, 65536, 65539, 1 << 20} {
		wantRefused(t, text(jump(0), strings.Repeat(op(api.OpDrop), n-3)))
	}
}

// 6.1: what Decode does not read, in what can be reached and in what can't.
func TestTextsThatCannotBeRead(t *testing.T) {
	for b := 24; b < 256; b++ {
		wantRefused(t, text(op(b), jump(0)))
		wantRefused(t, text(jump(0), op(b)))
		wantRefused(t, text(jump(0), op(b), jump(0)))
		wantRefused(t, text(push(1), op(api.OpDrop), op(b), jump(0)))
		wantRuns(t, text(push(b), op(api.OpDrop), jump(0)), 0, 1, 0) // as an operand it is none the worse
	}
	for _, whole := range []string{push(1), word(1), jump(0), zero(0), sys(1)} {
		wantRuns(t, text(jump(0), whole), 0, -1)
		for n := 1; n < len(whole); n++ {
			wantRefused(t, text(jump(0), whole[:n]))
			wantRefused(t, text(push(1), op(api.OpDrop), whole[:n]))
		}
	}
}

// 6.1: the places that an OpJump names, in one that can be reached and in one that can't.
func TestPlacesOfJump(t *testing.T) {
	ahead := text(push(1), op(api.OpDrop), word(21), op(api.OpDrop)) // 0, 2, 3, 12
	for at := range 1000 {
		s := text(ahead, jump(at)) // 13; 16 bytes
		switch at {
		case 0, 3, 13:
			wantRuns(t, s, 0, 1, 0, 1, 0)
		default: // 2 and 12 begin an instruction, but of another depth
			wantRefused(t, s)
		}
		s = text(jump(0), ahead, jump(at)) // all three bytes on; 19 bytes
		switch at {
		case 0, 3, 5, 6, 15, 16:
			wantRuns(t, s, 0, -1, -1, -1, -1, -1)
		default:
			wantRefused(t, s)
		}
	}
	for _, at := range []int{0x0d00, 0x1000, 0x8000, 0xff00, 0xff0d, 0xffff} { // cut to a byte, some of them are places
		wantRefused(t, text(ahead, jump(at)))
		wantRefused(t, text(jump(0), ahead, jump(at)))
	}
}

// 6.1: the places that an OpZero names, likewise.
func TestPlacesOfZero(t *testing.T) {
	for at := range 1000 {
		s := text(push(1), zero(at), word(21), op(api.OpDrop), jump(0)) // 0, 2, 5, 14, 15; 18 bytes
		switch at {
		case 0, 5, 15:
			wantRuns(t, s, 0, 1, 0, 1, 0)
		default: // 2 and 14 begin an instruction, but of another depth
			wantRefused(t, s)
		}
		s = text(jump(0), word(21), op(api.OpDrop), zero(at)) // 0, 3, 12, 13; 16 bytes
		switch at {
		case 0, 3, 12, 13:
			wantRuns(t, s, 0, -1, -1, -1)
		default:
			wantRefused(t, s)
		}
	}
	for _, at := range []int{0x0f00, 0x1000, 0x8000, 0xff00, 0xff0f, 0xffff} {
		wantRefused(t, text(push(1), zero(at), word(21), op(api.OpDrop), jump(0)))
		wantRefused(t, text(jump(0), word(21), op(api.OpDrop), zero(at)))
	}
}

// 6.1: the last places of the longest programs, and those behind them.
func TestLastPlaces(t *testing.T) {
	filler := strings.Repeat(op(api.OpDrop), 183)
	wantRuns(t, text(jump(189), jump(0), filler, jump(189)), slices.Concat([]int{0}, many(-1, 184), []int{0})...)
	for at := 190; at < 260; at++ {
		wantRefused(t, text(jump(at), jump(0), filler, jump(189)))
		wantRefused(t, text(jump(0), jump(at), filler, jump(189)))
	}
	wantRuns(t, text(jump(0), jump(191), filler, strings.Repeat(op(api.OpNot), 3)), slices.Concat([]int{0}, many(-1, 187))...)
	wantRefused(t, text(jump(0), jump(192), filler, strings.Repeat(op(api.OpNot), 3)))
}

// 6.1: an OpSys names a call that is one, whether it can be reached or not.
func TestCalls(t *testing.T) {
	args := callArgs()
	for call := range 256 {
		reached := text(strings.Repeat(push(0), 4), sys(call), jump(10))
		if call == 0 || call >= len(args) {
			wantRefused(t, reached)
			wantRefused(t, text(jump(0), sys(call)))
			wantRefused(t, text(jump(0), sys(call), jump(0)))
			continue
		}
		wantRuns(t, reached, 0, 1, 2, 3, 4, 5-args[call])
		wantRuns(t, text(jump(0), sys(call)), 0, -1)
		wantRuns(t, text(jump(0), sys(call), jump(0)), 0, -1, -1)
	}
}

// straight are all instructions that go on behind themselves alone.
func straight() []string {
	l := []string{push(9), word(9)}
	for o := api.OpDup; o < api.OpJump; o++ {
		l = append(l, op(o))
	}
	for call := api.SysExit; call <= api.SysYield; call++ {
		l = append(l, sys(call))
	}
	return l
}

// 6.1: each instruction at each depth: d - p is never below 0, no depth above 32.
func TestEveryDepth(t *testing.T) {
	for _, one := range straight() {
		i, _ := model(one, 0)
		for d := range 33 {
			s := text(strings.Repeat(push(1), d), one, jump(2*d+len(one)))
			if after := d - i.takes + i.puts; d >= i.takes && after <= 32 {
				wantRuns(t, s, append(rise(d+1), after)...)
			} else {
				wantRefused(t, s)
			}
		}
	}
}

// 6.1: an OpZero takes one number, whether it goes on behind itself or where it names.
func TestZeroAtEveryDepth(t *testing.T) {
	wantRefused(t, text(zero(3), jump(3)))
	for d := 1; d <= 32; d++ {
		end := 2*d + 3
		s := text(strings.Repeat(push(1), d), zero(end+3), jump(end), jump(end+3))
		wantRuns(t, s, append(rise(d+1), d-1, d-1)...)
	}
}

// 6.1: a depth of 32 and one of 33, come to straight on and by a place that is named.
func TestFullStack(t *testing.T) {
	wantRuns(t, text(strings.Repeat(push(1), 32), jump(64)), rise(33)...)
	wantRefused(t, text(strings.Repeat(push(1), 33), jump(66)))
	half := strings.Repeat(push(1), 16)
	wantRuns(t, text(half, jump(35), half, jump(67)), slices.Concat(rise(17), rise(33)[16:])...)
	wantRefused(t, text(half, jump(35), half, push(1), jump(69)))
	wantRefused(t, text(half, push(1), jump(37), half, jump(69)))
	wantRuns(t, text(jump(0), half, half, half), slices.Concat([]int{0}, many(-1, 48))...) // no depth, so none above 32
}

// 6.1: two ways to one instruction, with the same depth and with two, the one that is named ahead or behind.
func TestTwoWays(t *testing.T) {
	// 0 push, 2 zero, 5 push, 7 jump, 10 push, 12 drop, 13 jump
	wantRuns(t, text(push(1), zero(10), push(2), jump(12), push(3), op(api.OpDrop), jump(0)), 0, 1, 0, 1, 0, 1, 0)
	wantRefused(t, text(push(1), zero(12), push(2), jump(12), push(3), op(api.OpDrop), jump(0)))
	wantRefused(t, text(push(1), zero(10), push(2), jump(10), push(3), op(api.OpDrop), jump(0)))
	// 0 push, 2 zero, 5 getpid, 7 drop, 8 jump: a branch of no height, and one of one
	wantRuns(t, text(push(1), zero(8), sys(17), op(api.OpDrop), jump(8)), 0, 1, 0, 1, 0)
	wantRefused(t, text(push(1), zero(7), sys(17), op(api.OpDrop), jump(8)))
	wantRefused(t, text(push(1), zero(7), sys(17), sys(17), jump(9)))
	wantRuns(t, text(push(1), zero(5), jump(5)), 0, 1, 0) // both ways go right behind it
	// one that can't be reached makes no depth for what it names
	wantRuns(t, text(jump(0), push(1), jump(0)), 0, -1, -1)
	wantRuns(t, text(jump(0), push(1), push(1), zero(0)), 0, -1, -1, -1)
}

// 6.1: a loop back that keeps the depth, and ones that do not.
func TestLoops(t *testing.T) {
	wantRuns(t, text(push(1), op(api.OpDrop), jump(0)), 0, 1, 0)
	wantRuns(t, text(push(1), op(api.OpDup), op(api.OpDrop), jump(2)), 0, 1, 2, 1)
	wantRefused(t, text(push(1), jump(0)))
	wantRefused(t, text(push(1), push(1), op(api.OpDrop), jump(0)))
	wantRefused(t, text(push(1), push(1), op(api.OpDrop), jump(4)))
	wantRefused(t, text(push(1), push(1), push(1), op(api.OpDrop), jump(6)))
	wantRuns(t, text(push(9), op(api.OpDup), zero(9), jump(2), op(api.OpDrop), jump(10)), 0, 1, 2, 1, 1, 0)
	wantRuns(t, text(jump(3), jump(6), jump(0)), 0, 0, 0)
	wantRefused(t, text(push(1), zero(2), jump(0))) // an OpZero that names itself is there with one number less
	wantRuns(t, text(jump(0), zero(3)), 0, -1)
}

// 6.1: the program's end comes behind an OpJump or behind what can't be reached.
func TestEnds(t *testing.T) {
	for _, one := range straight() {
		ahead := strings.Repeat(push(1), 4)
		wantRefused(t, text(ahead, one))
		wantRefused(t, text(jump(11), ahead, one)) // the end is behind what is named
	}
	wantRefused(t, text(push(1), zero(0)))
	wantRefused(t, text(push(1), push(1), zero(2)))
	wantRefused(t, text(jump(6), jump(0), push(1), zero(3)))
	wantRuns(t, text(jump(0), zero(0)), 0, -1)
	wantRuns(t, text(jump(0), push(1), zero(0)), 0, -1, -1)
	wantRuns(t, text(push(1), zero(5), jump(0)), 0, 1, 0)
	wantRefused(t, text(zero(0)))
}

// 6.1: what can't be reached has the depth -1, and its own depths would not matter, nor how it ends.
func TestUnreached(t *testing.T) {
	for _, one := range straight() {
		wantRuns(t, text(jump(0), one), 0, -1)
		wantRuns(t, text(jump(3+len(one)), one, jump(0)), 0, -1, 0)
		wantRuns(t, text(push(1), jump(5+len(one)), one, op(api.OpDrop), jump(0)), 0, 1, -1, 1, 0)
	}
	wantRuns(t, text(jump(0), jump(0), zero(3), jump(6)), 0, -1, -1, -1)
	wantRuns(t, text(jump(3), jump(0), strings.Repeat(push(1), 40)), slices.Concat([]int{0, 0}, many(-1, 40))...)
	wantRuns(t, text(jump(0), push(1), jump(3)), 0, -1, -1) // a loop of two depths
	// a place that only such an instruction names can't be reached either
	wantRuns(t, text(jump(0), jump(6), op(api.OpDrop), jump(6)), 0, -1, -1, -1)
}

// 6.1: Entry at places of depth 0, of another one and of none.
func TestEntry(t *testing.T) {
	s := text(push(0), sys(17), op(api.OpAdd), zero(8), jump(11), jump(0), op(api.OpNot), push(0)) // 0, 2, 4, 5, 8, 11, 14, 15
	wantRuns(t, s, 0, 1, 2, 1, 0, 0, -1, -1)
	for at := -20; at < 300; at++ {
		if want := at == 0 || at == 8 || at == 11; Entry(s, at) != want {
			t.Errorf("Entry(s, %d) = %v", at, !want)
		}
	}
	bad := s + op(24)
	for at := -20; at < 300; at++ {
		if Entry(bad, at) {
			t.Errorf("Entry(bad, %d)", at)
		}
	}
}

// steps is a row of numbers that is the same each time.
type steps uint64

func (s *steps) next(n int) int {
	*s = *s*6364136223846793005 + 1442695040888963407
	return int(uint64(*s) >> 33 % uint64(n))
}

// agree asks that the three calls answer what the model says, and tells whether the text may be run.
func agree(t *testing.T, s string) bool {
	t.Helper()
	want, runs := expected(s)
	if runs {
		wantRuns(t, s, want...)
	} else {
		wantRefused(t, s)
	}
	return runs
}

// 6.1: each text of up to 4 bytes of these, alone and with an OpJump behind it.
func TestAllShortTexts(t *testing.T) {
	letters := []byte{0, 1, 2, 3, 4, 5, 6, 17, 18, 20, 21, 22, 23, 24, 255}
	texts := []string{""}
	runs := 0
	for range 4 {
		var longer []string
		for _, s := range texts {
			for _, b := range letters {
				longer = append(longer, s+op(int(b)))
			}
		}
		for _, s := range longer {
			for _, whole := range []string{s, s + jump(0), s + jump(len(s))} {
				if agree(t, whole) {
					runs++
				}
			}
		}
		texts = longer
	}
	if runs < 200 {
		t.Errorf("only %d of the texts may be run", runs)
	}
}

// guess is a text of whole instructions whose places are mostly ones at which an instruction begins, and whose depths are mostly right.
func guess(s *steps) string {
	type hole struct{ at, depth int }
	var b []byte
	var begins, holes []hole
	depth, pieces := 0, 1+s.next(40)
	for range pieces {
		var one string
		switch pick := s.next(12); {
		case pick < 3:
			one = push(s.next(256))
		case pick < 5:
			one = zero(0)
		case pick < 6:
			one = jump(0)
		case pick < 8:
			one = sys(1 + s.next(19))
		default:
			one = straight()[s.next(len(straight()))]
		}
		i, _ := model(one, 0)
		if depth < i.takes && s.next(30) > 0 {
			continue
		}
		begins = append(begins, hole{len(b), depth})
		depth = max(0, depth-i.takes+i.puts)
		if i.op == api.OpJump || i.op == api.OpZero {
			holes = append(holes, hole{len(b), depth})
		}
		b = append(b, one...)
	}
	if s.next(20) > 0 {
		begins, holes = append(begins, hole{len(b), depth}), append(holes, hole{len(b), depth})
		b = append(b, jump(0)...)
	}
	for _, h := range holes {
		to := begins[s.next(len(begins))]
		for range 200 {
			if to.depth == h.depth {
				break
			}
			to = begins[s.next(len(begins))]
		}
		if s.next(60) == 0 {
			to.at += s.next(3) - 1
		}
		b[h.at+1], b[h.at+2] = byte(to.at), byte(to.at>>8)
	}
	return string(b)
}

// 6.1: many programs, against the model that goes through all states.
func TestGuesses(t *testing.T) {
	s := steps(7)
	runs, rounds := 0, 6000
	for range rounds {
		if agree(t, guess(&s)) {
			runs++
		}
	}
	if runs < rounds/10 || runs > rounds*9/10 {
		t.Errorf("%d of %d texts may be run: too few or too many to tell", runs, rounds)
	}
}

// 6.1: a program that may be run, with one byte of it changed.
func TestOneByteChanged(t *testing.T) {
	s := text(push(1), zero(10), push(2), jump(12), push(3), op(api.OpDrop), sys(17), op(api.OpDrop), jump(0))
	for at := range len(s) {
		for b := range 256 {
			agree(t, s[:at]+op(b)+s[at+1:])
		}
	}
}

// 6.2: wherever a machine may come to in a program that may be run, it has as many numbers as the depth says, at least
// as many as the instruction takes, never more than 32, and an instruction begins there.
func TestNeverWrong(t *testing.T) {
	r := steps(8)
	runs := 0
	for range 6000 {
		s := guess(&r)
		depths, e := Depths(s)
		if e != api.OK {
			continue
		}
		runs++
		seen, wrong := follow(s)
		if wrong != "" {
			t.Errorf("%q may be run, but %s", s, wrong)
		}
		l, _ := modelAll(s)
		for now := range seen {
			k := slices.IndexFunc(l, func(i ins) bool { return i.at == now.at })
			if k < 0 || depths[k] != now.height {
				t.Errorf("%q: at byte %d there may be %d numbers, but its depths are %v", s, now.at, now.height, depths)
			}
		}
	}
	if runs < 600 {
		t.Errorf("only %d of the texts may be run", runs)
	}
}

// 6.2: a walk that turns at each OpZero as it likes, held against the depths at each step.
func TestWalks(t *testing.T) {
	r := steps(9)
	for range 2000 {
		s := guess(&r)
		depths, e := Depths(s)
		if e != api.OK {
			continue
		}
		l, _ := modelAll(s)
		at, height := 0, 0
		for range 300 {
			k := slices.IndexFunc(l, func(i ins) bool { return i.at == at })
			if k < 0 {
				t.Fatalf("%q: byte %d was come to, at which no instruction begins", s, at)
			}
			if height != depths[k] || height < l[k].takes || height > 32 {
				t.Fatalf("%q: %d numbers at byte %d, which takes %d; depths %v", s, height, at, l[k].takes, depths)
			}
			height += l[k].puts - l[k].takes
			ways := l[k].ways()
			at = ways[r.next(len(ways))]
		}
	}
}

// R4: what was handed in stays as it was, and two answers share no memory.
func TestAnswersAreNewMemory(t *testing.T) {
	s := text(push(0), sys(1), op(api.OpDrop), jump(0))
	before := strings.Clone(s)
	one, _ := Depths(s)
	two, _ := Depths(s)
	whole := one[:cap(one)]
	for k := range whole {
		whole[k] = 77
	}
	if !slices.Equal(two, []int{0, 1, 1, 0}) {
		t.Errorf("the second answer became %v", two)
	}
	wantRuns(t, s, 0, 1, 1, 0)
	if s != before {
		t.Errorf("the text became %q", s)
	}
}

// R5: the same again, whatever was asked between.
func TestAnswersDoNotHangOnCallsAhead(t *testing.T) {
	for range 3 {
		wantRuns(t, text(push(0), sys(1), op(api.OpDrop), jump(0)), 0, 1, 1, 0)
		wantRefused(t, text(push(0), sys(1), jump(0)))
		wantRuns(t, jump(0), 0)
		wantRefused(t, "")
	}
}
