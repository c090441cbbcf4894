package vm_test

import (
	"math"
	"slices"
	"testing"

	"janus/api"
	"janus/vm"
)

// behind is a number that stands behind a list's end.
const behind = 0xdeadbeef

// roomy answers a list's copy with room behind its end, and what lies there.
func roomy(l []uint64) []uint64 {
	room := slices.Concat(l, slices.Repeat([]uint64{behind}, 8))
	return room[:len(l)]
}

// untouched asks that a list made by roomy, and what lies behind it, is as it was; then it is overwritten to the end of its room.
func untouched(t *testing.T, what string, l, was []uint64) {
	t.Helper()
	room := l[:len(l)+8]
	if !slices.Equal(l, was) || !slices.Equal(room[len(l):], slices.Repeat([]uint64{behind}, 8)) {
		t.Errorf("%s: what was handed in is %v, and was %v", what, room, was)
	}
	spoil(room)
}

// spoil overwrites a list to the end of its room.
func spoil(l []uint64) {
	for k := range l[:cap(l)] {
		l[:cap(l)][k] = 0xbad
	}
}

// step is vm.Step, of which it is asked that it touches and shares nothing that was handed in, and answers twice the same.
func step(t *testing.T, s string, v api.Vm) (api.Vm, api.Act) {
	t.Helper()
	in := api.Vm{Pc: v.Pc, Stack: roomy(v.Stack)}
	first, _ := vm.Step(s, in)
	spoil(first.Stack)
	got, act := vm.Step(s, in)
	again, actAgain := vm.Step(s, in)
	untouched(t, "Step", in.Stack, v.Stack)
	if !sameVm(got, again) || act != actAgain {
		t.Errorf("Step(%q, %v) = %v, %v, then %v, %v", s, v, got, act, again, actAgain)
	}
	spoil(again.Stack)
	return got, act
}

func TestExamples(t *testing.T) {
	end := func(s string) api.Vm {
		v, _, act, _ := vm.Run(s, api.Vm{}, nil, 3)
		if act != (api.Act{}) {
			t.Errorf("Run(%q): %v", s, act)
		}
		return v
	}
	if v := end(text(push(2), push(3), op(api.OpAdd))); !sameVm(v, at(5, 5)) {
		t.Errorf("2 + 3: %v", v)
	}
	if v := end(text(push(1), push(64), op(api.OpShl))); !sameVm(v, at(5, 0)) {
		t.Errorf("1 by 64 bits: %v", v)
	}
	s := text(push(9), push(5), op(api.OpStore))
	v, act := vm.Step(s, api.Vm{})
	v, act = vm.Step(s, v)
	v, act = vm.Step(s, v)
	if !sameVm(v, at(5)) || act != (api.Act{Kind: api.ActStore, Addr: 5, Value: 9}) {
		t.Errorf("store: %v %v", v, act)
	}
}

// 7.1: each operation with just the numbers that it takes, written out.
func TestEachOperation(t *testing.T) {
	none := api.Act{}
	for _, x := range []struct {
		s    string
		have []uint64
		pc   int
		want []uint64
		act  api.Act
	}{
		{push(0), nil, 2, []uint64{0}, none},
		{push(255), nil, 2, []uint64{255}, none},
		{word(0), nil, 9, []uint64{0}, none},
		{word(0x0102030405060708), nil, 9, []uint64{0x0102030405060708}, none},
		{word(math.MaxUint64), nil, 9, []uint64{math.MaxUint64}, none},
		{op(api.OpDup), []uint64{7}, 1, []uint64{7, 7}, none},
		{op(api.OpDrop), []uint64{7}, 1, nil, none},
		{op(api.OpSwap), []uint64{7, 8}, 1, []uint64{8, 7}, none},
		{op(api.OpOver), []uint64{7, 8}, 1, []uint64{7, 8, 7}, none},
		{op(api.OpAdd), []uint64{7, 8}, 1, []uint64{15}, none},
		{op(api.OpSub), []uint64{8, 7}, 1, []uint64{1}, none},
		{op(api.OpMul), []uint64{7, 8}, 1, []uint64{56}, none},
		{op(api.OpDiv), []uint64{23, 7}, 1, []uint64{3}, none},
		{op(api.OpMod), []uint64{23, 7}, 1, []uint64{2}, none},
		{op(api.OpAnd), []uint64{12, 10}, 1, []uint64{8}, none},
		{op(api.OpOr), []uint64{12, 10}, 1, []uint64{14}, none},
		{op(api.OpXor), []uint64{12, 10}, 1, []uint64{6}, none},
		{op(api.OpShl), []uint64{3, 4}, 1, []uint64{48}, none},
		{op(api.OpShr), []uint64{48, 4}, 1, []uint64{3}, none},
		{op(api.OpLess), []uint64{7, 8}, 1, []uint64{1}, none},
		{op(api.OpLess), []uint64{8, 7}, 1, []uint64{0}, none},
		{op(api.OpLess), []uint64{8, 8}, 1, []uint64{0}, none},
		{op(api.OpEqual), []uint64{8, 8}, 1, []uint64{1}, none},
		{op(api.OpEqual), []uint64{8, 7}, 1, []uint64{0}, none},
		{op(api.OpNot), []uint64{0}, 1, []uint64{1}, none},
		{op(api.OpNot), []uint64{1}, 1, []uint64{0}, none},
		{op(api.OpNot), []uint64{math.MaxUint64}, 1, []uint64{0}, none},
		{op(api.OpLoad), []uint64{7}, 1, nil, api.Act{Kind: api.ActLoad, Addr: 7}},
		{op(api.OpStore), []uint64{7, 8}, 1, nil, api.Act{Kind: api.ActStore, Addr: 8, Value: 7}},
		{jump(0x1234), nil, 0x1234, nil, none},
		{zero(0x1234), []uint64{0}, 0x1234, nil, none},
		{zero(0x1234), []uint64{1}, 3, nil, none},
		{sys(api.SysExit), []uint64{7}, 0, []uint64{7}, api.Act{Kind: api.ActSys, Sys: 1}},
	} {
		wantStep(t, x.s, at(0, x.have...), at(x.pc, x.want...), x.act)
		more := append([]uint64{90, 91}, x.have...) // what is below is not touched
		wantStep(t, x.s, at(0, more...), at(x.pc, append([]uint64{90, 91}, x.want...)...), x.act)
	}
}

// each is an instruction of each operation, with all calls and two numbers that are none.
func each() []string {
	l := []string{push(9), word(1 << 40), jump(7), zero(7), sys(0), sys(255)}
	for o := api.OpDup; o < api.OpJump; o++ {
		l = append(l, op(o))
	}
	for call := range callArgs() {
		l = append(l, sys(call))
	}
	return l
}

// 7.1: each instruction at each height, up to heights that no Step leaves.
func TestEachHeight(t *testing.T) {
	for _, s := range each() {
		for height := range 40 {
			v := at(0, rise(height)...)
			want, act := modelStep(s, v)
			wantStep(t, s, v, want, act)
		}
	}
}

// 7.1: the heights at which there are too few numbers or too little room, written out.
func TestHeights(t *testing.T) {
	for _, x := range []struct{ o, least, most int }{
		{api.OpDup, 1, 31}, {api.OpDrop, 1, 33}, {api.OpSwap, 2, 32}, {api.OpOver, 2, 31},
		{api.OpAdd, 2, 33}, {api.OpSub, 2, 33}, {api.OpMul, 2, 33}, {api.OpDiv, 2, 33}, {api.OpMod, 2, 33},
		{api.OpAnd, 2, 33}, {api.OpOr, 2, 33}, {api.OpXor, 2, 33}, {api.OpShl, 2, 33}, {api.OpShr, 2, 33},
		{api.OpLess, 2, 33}, {api.OpEqual, 2, 33}, {api.OpNot, 1, 32}, {api.OpLoad, 1, 32}, {api.OpStore, 2, 34},
	} {
		wantHeights(t, op(x.o), x.least, x.most)
	}
	wantHeights(t, push(1), 0, 31)
	wantHeights(t, word(1), 0, 31)
	wantHeights(t, jump(0), 0, 32)
	wantHeights(t, zero(0), 1, 33)
	for call, n := range callArgs() {
		if call > 0 {
			wantHeights(t, sys(call), n, 31+n)
		}
	}
	wantHeights(t, sys(0), 0, 32)
	wantHeights(t, sys(20), 0, 32)
}

// wantHeights asks that an instruction can be done from the least to the most height alone.
func wantHeights(t *testing.T, s string, least, most int) {
	t.Helper()
	for height := range 70 {
		v := at(0, rise(height)...)
		if _, act := step(t, s, v); (act.Kind != api.ActFault) != (height >= least && height <= most) {
			t.Errorf("Step(%q) with %d numbers: %v", s, height, act)
		}
		if height < least || height > most {
			wantFault(t, s, v)
		}
	}
}

// 7.1: each place of a text, within operands too, where bytes are read as they stand.
func TestPlaces(t *testing.T) {
	s := text(push(2), word(0x1706050317ff1815), op(api.OpAdd)) // 0, 2, 11; 12 bytes
	for pc := -3; pc < 20; pc++ {
		for height := range 5 {
			v := at(pc, rise(height)...)
			want, act := modelStep(s, v)
			wantStep(t, s, v, want, act)
		}
	}
	wantStep(t, s, at(1, 7), at(2, 7, 7), api.Act{})                            // the operand 2 is an OpDup
	wantStep(t, s, at(3, 7), at(0xff18, 7), api.Act{})                          // an OpJump with two bytes of the rest
	wantFault(t, s, at(4, 7, 8))                                                // 24
	wantFault(t, s, at(5, 7, 8))                                                // 255
	wantStep(t, s, at(6, 7, 8), at(6, 7, 8), api.Act{Kind: api.ActSys, Sys: 3}) // an OpSys with the operand 3
}

// 7.1: places far off.
func TestFarPlaces(t *testing.T) {
	s := text(push(2), op(api.OpDup))
	for _, pc := range []int{math.MinInt, math.MinInt + 1, math.MinInt32, -65536, -256, -2, -1, 3, 4, 256, 65536, 1 << 32, math.MaxInt32, math.MaxInt - 8, math.MaxInt - 1, math.MaxInt} {
		for height := range 5 {
			wantFault(t, s, at(pc, rise(height)...))
			wantFault(t, "", at(pc, rise(height)...))
		}
	}
	wantFault(t, "", api.Vm{})
}

// 7.1: bytes that are no operation, and texts that end within an operand.
func TestTextsThatCannotBeRead(t *testing.T) {
	for b := 24; b < 256; b++ {
		for height := range 34 {
			wantFault(t, op(b), at(0, rise(height)...))
		}
		wantFault(t, text(push(1), op(b), push(1)), at(2, 1, 2))
	}
	for _, s := range []string{push(1), word(1), jump(0), zero(0), sys(api.SysGetpid)} {
		for n := range len(s) {
			wantFault(t, s[:n], at(0, 1, 2))
			wantFault(t, text(op(api.OpNot), s[:n]), at(1, 1, 2))
		}
		if _, act := step(t, s, at(0, 1, 2)); act.Kind == api.ActFault {
			t.Errorf("Step(%q) faults", s)
		}
	}
}

// 7.1: all operations of two numbers at the edges of 64 bits, by numbers that have no bound.
func TestReckoning(t *testing.T) {
	for o := api.OpAdd; o <= api.OpEqual; o++ {
		for _, a := range numbers() {
			for _, b := range numbers() {
				want, is := reckon(o, a, b)
				v, act := vm.Step(op(o), at(0, 5, a, b))
				if is && (!sameVm(v, at(1, 5, want)) || act != api.Act{}) {
					t.Fatalf("operation %d of %d and %d: %v, %v, want %d", o, a, b, v, act, want)
				}
				if !is && (!sameVm(v, at(0, 5, a, b)) || act != api.Act{Kind: api.ActFault}) {
					t.Fatalf("operation %d of %d and %d: %v, %v, want a fault", o, a, b, v, act)
				}
			}
		}
	}
}

// 7.1: the same, written out where a sum, a number of bits or a sign could be mistaken.
func TestReckoningWrittenOut(t *testing.T) {
	const most, half = math.MaxUint64, 1 << 63
	for _, x := range []struct {
		o          int
		a, b, want uint64
	}{
		{api.OpAdd, most, 1, 0}, {api.OpAdd, most, most, most - 1}, {api.OpAdd, half, half, 0},
		{api.OpSub, 0, 1, most}, {api.OpSub, 0, most, 1}, {api.OpSub, 2, 3, most}, {api.OpSub, half, most, half + 1},
		{api.OpMul, half, 2, 0}, {api.OpMul, most, most, 1}, {api.OpMul, 1 << 32, 1 << 32, 0}, {api.OpMul, 1<<32 + 1, 1<<32 + 1, 1<<33 + 1}, {api.OpMul, most, 0, 0},
		{api.OpDiv, most, 1, most}, {api.OpDiv, most, most, 1}, {api.OpDiv, half, most, 0}, {api.OpDiv, most, 2, half - 1}, {api.OpDiv, 0, most, 0}, {api.OpDiv, 7, 8, 0},
		{api.OpMod, most, 10, 5}, {api.OpMod, half, most, half}, {api.OpMod, most, half, half - 1}, {api.OpMod, 7, 1, 0}, {api.OpMod, 0, 3, 0},
		{api.OpShl, most, 0, most}, {api.OpShl, 3, 63, half}, {api.OpShl, most, 64, 0}, {api.OpShl, most, 65, 0},
		{api.OpShl, 1, 1 << 8, 0}, {api.OpShl, 1, 1 << 32, 0}, {api.OpShl, 1, 1<<32 + 1, 0}, {api.OpShl, 1, half, 0}, {api.OpShl, 1, most, 0},
		{api.OpShr, most, 0, most}, {api.OpShr, most, 63, 1}, {api.OpShr, half, 63, 1}, {api.OpShr, half, 1, half / 2}, {api.OpShr, most, 64, 0}, {api.OpShr, most, 65, 0},
		{api.OpShr, most, 1 << 8, 0}, {api.OpShr, most, 1 << 32, 0}, {api.OpShr, most, 1<<32 + 1, 0}, {api.OpShr, most, half, 0}, {api.OpShr, most, most, 0},
		{api.OpLess, 0, half, 1}, {api.OpLess, half, 0, 0}, {api.OpLess, half - 1, half, 1}, {api.OpLess, half, half - 1, 0}, {api.OpLess, most, 0, 0},
		{api.OpLess, 0, most, 1}, {api.OpLess, half, most, 1}, {api.OpLess, most, most, 0}, {api.OpLess, 1 << 32, 1, 0},
		{api.OpEqual, half, half, 1}, {api.OpEqual, half, 0, 0}, {api.OpEqual, most, most, 1}, {api.OpEqual, most, half, 0}, {api.OpEqual, 1 << 32, 0, 0},
	} {
		wantStep(t, op(x.o), at(0, x.a, x.b), at(1, x.want), api.Act{})
	}
}

// 7.1: OpDiv and OpMod by 0.
func TestDivisionByZero(t *testing.T) {
	for _, o := range []int{api.OpDiv, api.OpMod} {
		for _, a := range numbers() {
			wantFault(t, op(o), at(0, a, 0))
			wantFault(t, text(op(api.OpNot), op(o)), at(1, 0, 4, a, 0))
		}
		for height := range 70 {
			wantFault(t, op(o), at(0, slices.Repeat([]uint64{0}, height)...))
		}
	}
}

// 7.1: OpZero at 0 and at others, OpNot likewise, and places of OpJump that are no instruction's.
func TestZeroAndNot(t *testing.T) {
	for _, x := range numbers() {
		pc, not := 4, uint64(0)
		if x == 0 {
			pc, not = 0xfffe, 1
		}
		wantStep(t, text(op(api.OpNot), zero(0xfffe)), at(1, 3, x), at(pc, 3), api.Act{})
		wantStep(t, op(api.OpNot), at(0, 3, x), at(1, 3, not), api.Act{})
	}
	for _, place := range []int{0, 1, 2, 3, 255, 256, 0x0102, 0x7fff, 0x8000, 0xff00, 0xffff} {
		wantStep(t, jump(place), api.Vm{}, at(place), api.Act{})
		wantStep(t, zero(place), at(0, 0), at(place), api.Act{})
		wantStep(t, zero(place), at(0, 1), at(3), api.Act{})
	}
}

// 7.1: what Loads and Stores ask for, of all numbers; nothing is looked at.
func TestAddresses(t *testing.T) {
	for _, a := range numbers() {
		wantStep(t, op(api.OpLoad), at(0, 3, a), at(1, 3), api.Act{Kind: api.ActLoad, Addr: a})
		for _, b := range numbers() {
			wantStep(t, op(api.OpStore), at(0, 3, a, b), at(1, 3), api.Act{Kind: api.ActStore, Addr: b, Value: a})
		}
	}
}

// 7.1: all operands of OpSys, those that are no call among them.
func TestSys(t *testing.T) {
	for call := range 256 {
		for _, height := range []int{0, 1, 2, 3, 4, 5, 31, 32} {
			v := at(1, rise(height)...)
			n, is := argsOf(call)
			s := text(op(api.OpNot), sys(call))
			if is && (height < n || height-n+1 > 32) {
				wantFault(t, s, v)
			} else {
				wantStep(t, s, v, v, api.Act{Kind: api.ActSys, Sys: call})
			}
		}
	}
}

// 7.1: texts and machines of all kinds, step by step.
func TestStepsAsTheModel(t *testing.T) {
	r := steps(7)
	for range 3000 {
		s := someText(&r)
		v := api.Vm{Pc: r.next(len(s)+3) - 1, Stack: someNumbers(&r, 36)}
		for range 12 {
			want, wantAct := modelStep(s, v)
			wantStep(t, s, v, want, wantAct)
			if wantAct.Kind == api.ActSys || wantAct.Kind == api.ActFault {
				break
			}
			v = want
		}
	}
}

// someNumbers is a list of fewer numbers than most, mostly of few.
func someNumbers(r *steps, most int) []uint64 {
	n := r.next(6)
	if r.next(4) == 0 {
		n = r.next(most)
	}
	var l []uint64
	for range n {
		l = append(l, r.word())
	}
	return l
}

// someText is a text of instructions, of which one byte may be another.
func someText(r *steps) string {
	s := ""
	for range 1 + r.next(30) {
		switch o := r.next(24); o {
		case api.OpPush:
			s += push(r.next(256))
		case api.OpWord:
			s += word(r.word())
		case api.OpJump:
			s += jump(r.next(60))
		case api.OpZero:
			s += zero(r.next(60))
		case api.OpSys:
			s += sys(r.next(24))
		default:
			s += op(o)
		}
		if r.next(3) == 0 {
			s += push(r.next(5))
		}
	}
	if r.next(3) == 0 {
		b := []byte(s)
		b[r.next(len(b))] = byte(r.next(256))
		s = string(b)
	}
	return s
}
