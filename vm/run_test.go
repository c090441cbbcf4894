package vm_test

import (
	"math"
	"slices"
	"strings"
	"testing"

	"janus/api"
	"janus/vm"
)

// run is vm.Run, of which it is asked that it touches and shares nothing that was handed in, and answers twice the same.
func run(t *testing.T, s string, v api.Vm, mem []uint64, fuel int) (api.Vm, []uint64, api.Act, int) {
	t.Helper()
	in, words := api.Vm{Pc: v.Pc, Stack: roomy(v.Stack)}, roomy(mem)
	first, firstMem, _, _ := vm.Run(s, in, words, fuel)
	spoil(first.Stack)
	spoil(firstMem)
	got, gotMem, act, n := vm.Run(s, in, words, fuel)
	again, againMem, actAgain, nAgain := vm.Run(s, in, words, fuel)
	untouched(t, "Run's stack", in.Stack, v.Stack)
	untouched(t, "Run's memory", words, mem)
	if !sameVm(got, again) || !slices.Equal(gotMem, againMem) || act != actAgain || n != nAgain {
		t.Errorf("Run(%q, %v, %v, %d) answers %v, %v, %v, %d, then %v, %v, %v, %d", s, v, mem, fuel, got, gotMem, act, n, again, againMem, actAgain, nAgain)
	}
	spoil(again.Stack)
	spoil(againMem)
	return got, gotMem, act, n
}

// wantRun asks that Run answers this.
func wantRun(t *testing.T, s string, v api.Vm, mem []uint64, fuel int, want api.Vm, wantMem []uint64, wantAct api.Act, wantN int) {
	t.Helper()
	got, gotMem, act, n := run(t, s, v, mem, fuel)
	if !sameVm(got, want) || !slices.Equal(gotMem, wantMem) || act != wantAct || n != wantN {
		t.Errorf("Run(%q, %v, %v, %d) = %v, %v, %v, %d, want %v, %v, %v, %d", s, v, mem, fuel, got, gotMem, act, n, want, wantMem, wantAct, wantN)
	}
}

var (
	noAct = api.Act{}
	fault = api.Act{Kind: api.ActFault}
)

// 7.3: fuel below 0, 0, 1 and more, up to a call.
func TestFuelToACall(t *testing.T) {
	s := text(push(7), push(1), op(api.OpStore), push(1), op(api.OpLoad), sys(api.SysExit)) // 0, 2, 4, 5, 7, 8
	mem := []uint64{5, 6, 5}
	after := []uint64{5, 7, 5}
	for _, fuel := range []int{math.MinInt, math.MinInt + 1, -65536, -2, -1, 0} {
		wantRun(t, s, api.Vm{}, mem, fuel, at(0), mem, noAct, 0)
		wantRun(t, s, at(8, 3), mem, fuel, at(8, 3), mem, noAct, 0) // no call is begun
		wantRun(t, s, at(8), mem, fuel, at(8), mem, noAct, 0)       // no fault either
		wantRun(t, "", api.Vm{}, nil, fuel, api.Vm{}, nil, noAct, 0)
	}
	wantRun(t, s, api.Vm{}, mem, 1, at(2, 7), mem, noAct, 1)
	wantRun(t, s, api.Vm{}, mem, 2, at(4, 7, 1), mem, noAct, 2)
	wantRun(t, s, api.Vm{}, mem, 3, at(5), after, noAct, 3)
	wantRun(t, s, api.Vm{}, mem, 4, at(7, 1), after, noAct, 4)
	wantRun(t, s, api.Vm{}, mem, 5, at(8, 7), after, noAct, 5)
	for _, fuel := range []int{6, 7, 200, 1 << 40, math.MaxInt} {
		wantRun(t, s, api.Vm{}, mem, fuel, at(8, 7), after, api.Act{Kind: api.ActSys, Sys: api.SysExit}, 5)
	}
}

// 7.3: a call or a fault at once is no Step that was done.
func TestAtOnce(t *testing.T) {
	for _, fuel := range []int{1, 2, 200, math.MaxInt} {
		wantRun(t, sys(api.SysExit), at(0, 3), []uint64{4}, fuel, at(0, 3), []uint64{4}, api.Act{Kind: api.ActSys, Sys: api.SysExit}, 0)
		wantRun(t, sys(99), at(0, 3), []uint64{4}, fuel, at(0, 3), []uint64{4}, api.Act{Kind: api.ActSys, Sys: 99}, 0)
		wantRun(t, sys(api.SysExit), at(0), []uint64{4}, fuel, at(0), []uint64{4}, fault, 0)
		wantRun(t, op(api.OpDrop), at(0), []uint64{4}, fuel, at(0), []uint64{4}, fault, 0)
		wantRun(t, op(api.OpDiv), at(0, 3, 0), []uint64{4}, fuel, at(0, 3, 0), []uint64{4}, fault, 0)
		wantRun(t, op(24), at(0, 3), []uint64{4}, fuel, at(0, 3), []uint64{4}, fault, 0)
		wantRun(t, "", at(0, 3), []uint64{4}, fuel, at(0, 3), []uint64{4}, fault, 0)
		wantRun(t, "", api.Vm{}, nil, fuel, api.Vm{}, nil, fault, 0)
		for _, pc := range []int{math.MinInt, -1, 2, 3, math.MaxInt} {
			wantRun(t, push(1), at(pc, 3), []uint64{4}, fuel, at(pc, 3), []uint64{4}, fault, 0)
		}
	}
}

// 7.3: up to a fault: a program's end, a division by 0, too few numbers, too many.
func TestFuelToAFault(t *testing.T) {
	for fuel := range 3 {
		s := text(push(1), push(0), op(api.OpDiv))
		wantRun(t, s, api.Vm{}, nil, fuel, at(2*fuel, []uint64{1, 0}[:fuel]...), nil, noAct, fuel)
	}
	wantRun(t, text(push(1), push(0), op(api.OpDiv)), api.Vm{}, nil, 3, at(4, 1, 0), nil, fault, 2)
	wantRun(t, text(push(1), push(0), op(api.OpMod)), api.Vm{}, nil, 9, at(4, 1, 0), nil, fault, 2)
	wantRun(t, push(1), api.Vm{}, nil, 1, at(2, 1), nil, noAct, 1)
	wantRun(t, push(1), api.Vm{}, nil, 2, at(2, 1), nil, fault, 1)
	wantRun(t, text(push(1), op(api.OpAdd)), api.Vm{}, nil, 9, at(2, 1), nil, fault, 1)
	wantRun(t, text(push(1), jump(0)), api.Vm{}, nil, 1000, at(0, slices.Repeat([]uint64{1}, 32)...), nil, fault, 64)
	wantRun(t, strings.Repeat(push(1), 40), api.Vm{}, nil, 1000, at(64, slices.Repeat([]uint64{1}, 32)...), nil, fault, 32)
	wantRun(t, text(push(0), zero(999)), api.Vm{}, nil, 9, at(999), nil, fault, 2)
}

// 7.3: a loop without an end does as many Steps as there is fuel for.
func TestLoop(t *testing.T) {
	for _, fuel := range []int{1, 2, 3, 200, 99999, 100000} {
		wantRun(t, jump(0), at(0, 4), []uint64{5}, fuel, at(0, 4), []uint64{5}, noAct, fuel)
	}
	count := text(push(0), op(api.OpLoad), push(1), op(api.OpAdd), push(0), op(api.OpStore), jump(0)) // seven Steps a round
	for rounds := range 50 {
		wantRun(t, count, api.Vm{}, []uint64{1000, 8}, 7*rounds, at(0), []uint64{1000 + uint64(rounds), 8}, noAct, 7*rounds)
	}
}

// 7.3: Loads and Stores at the first word, the last one, just beyond it and far beyond it.
func TestMemory(t *testing.T) {
	for _, size := range []int{0, 1, 2, 3, 31, 32, 33, 127, 128, 129, 1000} {
		mem := rise(size)
		for _, a := range append(numbers(), uint64(size), uint64(size)+1, uint64(size)-1) {
			wantLoad(t, mem, a)
			wantStore(t, mem, a)
		}
	}
}

// wantLoad asks what an OpLoad of an address does, as the first Step, and as the last one that there is fuel for.
func wantLoad(t *testing.T, mem []uint64, a uint64) {
	t.Helper()
	s := text(op(api.OpLoad), sys(0))
	if a < uint64(len(mem)) {
		wantRun(t, s, at(0, 9, a), mem, 1, at(1, 9, mem[a]), mem, noAct, 1)
		wantRun(t, s, at(0, 9, a), mem, 2, at(1, 9, mem[a]), mem, api.Act{Kind: api.ActSys}, 1)
		return
	}
	wantRun(t, s, at(0, 9, a), mem, 1, at(0, 9, a), mem, fault, 0)
	wantRun(t, s, at(0, 9, a), mem, 2, at(0, 9, a), mem, fault, 0)
	wantRun(t, text(word(a), s), at(0, 9), mem, 5, at(9, 9, a), mem, fault, 1)
}

// wantStore asks the same of an OpStore.
func wantStore(t *testing.T, mem []uint64, a uint64) {
	t.Helper()
	s := text(op(api.OpStore), sys(0))
	if a < uint64(len(mem)) {
		after := slices.Clone(mem)
		after[a] = math.MaxUint64
		wantRun(t, s, at(0, 9, math.MaxUint64, a), mem, 1, at(1, 9), after, noAct, 1)
		wantRun(t, s, at(0, 9, math.MaxUint64, a), mem, 2, at(1, 9), after, api.Act{Kind: api.ActSys}, 1)
		return
	}
	wantRun(t, s, at(0, 9, 6, a), mem, 1, at(0, 9, 6, a), mem, fault, 0)
	wantRun(t, s, at(0, 9, 6, a), mem, 2, at(0, 9, 6, a), mem, fault, 0)
	wantRun(t, text(push(6), word(a), s), at(0, 9), mem, 5, at(11, 9, 6, a), mem, fault, 2)
}

// 7.3: what a Load reads was stored ahead of it; what was stored ahead of a fault stays.
func TestStoredAhead(t *testing.T) {
	s := text(push(7), push(2), op(api.OpStore), push(2), op(api.OpLoad), push(3), op(api.OpLoad))
	wantRun(t, s, api.Vm{}, []uint64{1, 1, 1}, 99, at(10, 7, 3), []uint64{1, 1, 7}, fault, 6)
	s = text(push(7), push(0), op(api.OpStore), push(8), push(0), op(api.OpStore), push(8), push(1), op(api.OpStore))
	wantRun(t, s, api.Vm{}, []uint64{1}, 99, at(14, 8, 1), []uint64{8}, fault, 8)
}

// 7.3: a Load on a full stack takes the place of its address.
func TestLoadOnAFullStack(t *testing.T) {
	full := append(rise(31), 0)
	wantRun(t, op(api.OpLoad), at(0, full...), []uint64{77}, 1, at(1, append(rise(31), 77)...), []uint64{77}, noAct, 1)
	full[31] = 1
	wantRun(t, op(api.OpLoad), at(0, full...), []uint64{77}, 1, at(0, full...), []uint64{77}, fault, 0)
}

// 7.3: stacks of more than 32 numbers: only what leaves at most 32 can be done.
func TestGreaterStacks(t *testing.T) {
	drops := strings.Repeat(op(api.OpDrop), 40)
	wantRun(t, drops, at(0, rise(33)...), nil, 3, at(3, rise(30)...), nil, noAct, 3)
	wantRun(t, drops, at(0, rise(34)...), nil, 3, at(0, rise(34)...), nil, fault, 0)
	wantRun(t, op(api.OpAdd), at(0, rise(33)...), nil, 1, at(1, append(rise(31), 65)...), nil, noAct, 1)
	wantRun(t, op(api.OpStore), at(0, append(rise(32), 6, 0)...), []uint64{5}, 1, at(1, rise(32)...), []uint64{6}, noAct, 1)
	wantRun(t, op(api.OpStore), at(0, append(rise(32), 6, 1)...), []uint64{5}, 1, at(0, append(rise(32), 6, 1)...), []uint64{5}, fault, 0)
	wantRun(t, jump(0), at(0, rise(33)...), nil, 9, at(0, rise(33)...), nil, fault, 0)
	wantRun(t, op(api.OpNot), at(0, rise(33)...), nil, 9, at(0, rise(33)...), nil, fault, 0)
	wantRun(t, zero(0), at(0, rise(33)...), nil, 1, at(3, rise(32)...), nil, noAct, 1)
	wantRun(t, op(api.OpDrop), at(0, rise(5000)...), nil, 9, at(0, rise(5000)...), nil, fault, 0)
	wantRun(t, sys(api.SysLink), at(0, rise(35)...), nil, 9, at(0, rise(35)...), nil, api.Act{Kind: api.ActSys, Sys: api.SysLink}, 0)
	wantRun(t, sys(api.SysLink), at(0, rise(36)...), nil, 9, at(0, rise(36)...), nil, fault, 0)
	for height := range 70 {
		for _, s := range each() {
			v, mem := at(0, rise(height)...), rise(20)
			want, wantMem, act, n := modelRun(s, v, mem, 1)
			wantRun(t, s, v, mem, 1, want, wantMem, act, n)
		}
	}
}

// 7.3: programs of all kinds, with all fuels up to their end.
func TestRunsAsTheModel(t *testing.T) {
	r := steps(73)
	for range 1500 {
		s := someText(&r)
		v := api.Vm{Pc: r.next(len(s)+3) - 1, Stack: someNumbers(&r, 36)}
		mem := someNumbers(&r, 130)
		for fuel := -1; fuel < 30; fuel++ {
			want, wantMem, act, n := modelRun(s, v, mem, fuel)
			wantRun(t, s, v, mem, fuel, want, wantMem, act, n)
		}
	}
}

// 7.3: two Runs, one behind the other, do what one does with the fuel of both.
func TestRunsInTurn(t *testing.T) {
	r := steps(74)
	for range 1500 {
		s := someText(&r)
		mem := someNumbers(&r, 130)
		fuel, more := r.next(15), r.next(15)
		v, m, act, n := vm.Run(s, api.Vm{}, mem, fuel)
		if act == noAct {
			var next int
			v, m, act, next = vm.Run(s, v, m, more)
			n += next
		}
		wantRun(t, s, api.Vm{}, mem, fuel+more, v, m, act, n)
	}
}

// A program of its own: the sum of the numbers from 1 to 10, which it hands to SysExit.
func TestSum(t *testing.T) {
	s := text(
		push(10),                // 0
		op(api.OpDup), zero(28), // 2, 3: n
		op(api.OpDup),           // 6
		push(0), op(api.OpLoad), // 7, 9
		op(api.OpAdd),            // 10
		push(0), op(api.OpStore), // 11, 13
		push(1), op(api.OpSub), // 14, 16
		jump(2),                          // 17
		strings.Repeat(op(api.OpNot), 8), // 20
		op(api.OpDrop),                   // 28
		push(0), op(api.OpLoad),          // 29, 31
		sys(api.SysExit), // 32
	)
	wantRun(t, s, api.Vm{}, []uint64{0}, 10000, at(32, 55), []uint64{55}, api.Act{Kind: api.ActSys, Sys: api.SysExit}, 1+10*11+2+3)
}

// Nil and empty lists are the same.
func TestNilAndEmpty(t *testing.T) {
	for _, s := range append(each(), "", op(24)) {
		v, mem, act, n := vm.Run(s, api.Vm{}, nil, 3)
		w, words, act2, n2 := vm.Run(s, api.Vm{Stack: []uint64{}}, []uint64{}, 3)
		if !sameVm(v, w) || len(mem)+len(words) != 0 || act != act2 || n != n2 {
			t.Errorf("Run(%q): %v %v %v %d, %v %v %v %d", s, v, mem, act, n, w, words, act2, n2)
		}
		v, act = vm.Step(s, api.Vm{})
		w, act2 = vm.Step(s, api.Vm{Stack: []uint64{}})
		if !sameVm(v, w) || act != act2 {
			t.Errorf("Step(%q): %v %v, %v %v", s, v, act, w, act2)
		}
		if len(vm.Args(s, api.Vm{}))+len(vm.Args(s, api.Vm{Stack: []uint64{}})) != 0 {
			t.Errorf("Args(%q) of no numbers", s)
		}
		if v, w := vm.Done(s, api.Vm{}, 9), vm.Done(s, api.Vm{Stack: []uint64{}}, 9); !sameVm(v, w) {
			t.Errorf("Done(%q): %v, %v", s, v, w)
		}
	}
}
