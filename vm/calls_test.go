package vm_test

import (
	"math"
	"slices"
	"testing"

	"janus/api"
	"janus/vm"
)

// loaded is vm.Loaded, of which it is asked that it touches and shares nothing that was handed in.
func loaded(t *testing.T, v api.Vm, x uint64) api.Vm {
	t.Helper()
	in := api.Vm{Pc: v.Pc, Stack: roomy(v.Stack)}
	first := vm.Loaded(in, ^x)
	spoil(first.Stack)
	got, other := vm.Loaded(in, x), vm.Loaded(in, x+1)
	untouched(t, "Loaded", in.Stack, v.Stack)
	spoil(other.Stack)
	return got
}

// args is vm.Args, likewise.
func args(t *testing.T, s string, v api.Vm) []uint64 {
	t.Helper()
	in := api.Vm{Pc: v.Pc, Stack: roomy(v.Stack)}
	first := vm.Args(s, in)
	spoil(first)
	got, other := vm.Args(s, in), vm.Args(s, in)
	untouched(t, "Args", in.Stack, v.Stack)
	spoil(other)
	return got
}

// done is vm.Done, likewise.
func done(t *testing.T, s string, v api.Vm, x uint64) api.Vm {
	t.Helper()
	in := api.Vm{Pc: v.Pc, Stack: roomy(v.Stack)}
	first := vm.Done(s, in, ^x)
	spoil(first.Stack)
	got, other := vm.Done(s, in, x), vm.Done(s, in, x+1)
	untouched(t, "Done", in.Stack, v.Stack)
	spoil(other.Stack)
	return got
}

// 7.2: Loaded puts a number on top of every stack, an empty, a full and a greater one, and moves nothing.
func TestLoaded(t *testing.T) {
	for _, pc := range []int{math.MinInt, -1, 0, 7, math.MaxInt} {
		for _, x := range numbers() {
			for _, height := range []int{0, 1, 2, 31, 32, 33, 40} {
				want := api.Vm{Pc: pc, Stack: append(rise(height), x)}
				if got := loaded(t, at(pc, rise(height)...), x); !sameVm(got, want) {
					t.Fatalf("Loaded at %d on %d numbers: %v, want %v", pc, height, got, want)
				}
			}
		}
	}
	if got := vm.Loaded(api.Vm{}, 9); !sameVm(got, at(0, 9)) {
		t.Errorf("Loaded on nil: %v", got)
	}
	if got := vm.Loaded(api.Vm{Stack: []uint64{}}, 9); !sameVm(got, at(0, 9)) {
		t.Errorf("Loaded on an empty stack: %v", got)
	}
}

// 7.2: Step and Loaded are together what an OpLoad does.
func TestLoadAndLoaded(t *testing.T) {
	for height := 1; height <= 32; height++ {
		v, act := step(t, op(api.OpLoad), at(0, rise(height)...))
		if act != (api.Act{Kind: api.ActLoad, Addr: uint64(height)}) {
			t.Errorf("OpLoad with %d numbers: %v", height, act)
		}
		if got := loaded(t, v, 99); !sameVm(got, at(1, append(rise(height-1), 99)...)) {
			t.Errorf("OpLoad with %d numbers, then Loaded: %v", height, got)
		}
	}
}

// wantCall asks what Args and Done answer where there is a call that takes the stack's last n numbers.
func wantCall(t *testing.T, s string, v api.Vm, n int) {
	t.Helper()
	low := len(v.Stack) - n
	if got := args(t, s, v); !slices.Equal(got, v.Stack[low:]) {
		t.Errorf("Args(%q, %v) = %v, want the last %d", s, v, got, n)
	}
	for _, x := range []uint64{0, 9, math.MaxUint64} {
		want := at(v.Pc+2, append(slices.Clone(v.Stack[:low]), x)...)
		if got := done(t, s, v, x); !sameVm(got, want) {
			t.Errorf("Done(%q, %v, %d) = %v, want %v", s, v, x, got, want)
		}
	}
}

// wantNoCall asks that Args and Done find none.
func wantNoCall(t *testing.T, s string, v api.Vm) {
	t.Helper()
	if got := args(t, s, v); len(got) != 0 {
		t.Errorf("Args(%q, %v) = %v, want none", s, v, got)
	}
	if got := done(t, s, v, 9); !sameVm(got, v) {
		t.Errorf("Done(%q, %v) = %v, want it as it is", s, v, got)
	}
}

// 7.2: all operands of OpSys at each height.
func TestArgsAndDone(t *testing.T) {
	for call := range 256 {
		s := text(op(api.OpNot), sys(call), op(api.OpNot))
		for height := range 40 {
			v := at(1, rise(height)...)
			n, is := argsOf(call)
			if is && height >= n {
				wantCall(t, s, v, n)
			} else {
				wantNoCall(t, s, v)
			}
		}
	}
}

// 7.2: some of it written out.
func TestArgsAndDoneWrittenOut(t *testing.T) {
	if got := vm.Args(sys(api.SysLink), at(0, 1, 2, 3, 4, 5)); !slices.Equal(got, []uint64{2, 3, 4, 5}) {
		t.Errorf("Args of SysLink: %v", got)
	}
	if got := vm.Done(sys(api.SysLink), at(0, 1, 2, 3, 4, 5), 6); !sameVm(got, at(2, 1, 6)) {
		t.Errorf("Done of SysLink: %v", got)
	}
	wantNoCall(t, sys(api.SysLink), at(0, 1, 2, 3))
	wantCall(t, sys(api.SysFork), api.Vm{}, 0)
	wantCall(t, sys(api.SysFork), at(0, rise(32)...), 0) // one more than a Step would leave room for: Done puts it there all the same
	wantCall(t, sys(api.SysWrite), at(0, 7, 8, 9), 3)
	wantNoCall(t, sys(api.SysWrite), at(0, 8, 9))
	wantNoCall(t, sys(20), at(0, rise(9)...))
	wantNoCall(t, sys(0), at(0, rise(9)...))
}

// 7.2: at other instructions, at an OpSys without its operand, at places that are none, in the empty text.
func TestArgsAndDoneElsewhere(t *testing.T) {
	for _, s := range each() {
		if s[0] == api.OpSys {
			continue
		}
		for _, height := range []int{0, 1, 4, 32, 33} {
			wantNoCall(t, s, at(0, rise(height)...))
			wantNoCall(t, text(s, sys(api.SysGetpid)), at(0, rise(height)...))
		}
	}
	s := text(push(api.OpSys), sys(api.SysGetpid), op(api.OpSys)) // 0, 2, 4; 5 bytes
	for _, pc := range []int{math.MinInt, -65536, -2, -1, 0, 3, 4, 5, 6, 256, 65538, math.MaxInt - 1, math.MaxInt} {
		for _, height := range []int{0, 1, 4, 32} {
			wantNoCall(t, s, at(pc, rise(height)...))
			wantNoCall(t, "", at(pc, rise(height)...))
		}
	}
	wantCall(t, s, at(2, 8), 0)
	wantNoCall(t, s, at(1, 8))                                            // the operand 23 as an OpSys, whose operand is 23: none
	wantCall(t, text(push(api.OpSys), push(1), sys(3)), at(4, 7, 8), 2)   // the last one
	wantNoCall(t, text(push(api.OpSys), push(1), sys(3)), at(1, 7, 8))    // an operand 23, behind it a 0: no call
	wantCall(t, text(push(api.OpSys), op(api.OpSwap)), at(1, 7, 8), 1)    // an operand 23, behind it a 4: SysWait
	wantNoCall(t, text(op(24), sys(api.SysGetpid)), at(0, 7, 8))          // no operation
	wantNoCall(t, text(op(256-23), op(api.SysGetpid)), at(0, 7, 8))       // likewise
	wantCall(t, text(op(24), sys(api.SysGetpid), op(24)), at(1, 7, 8), 0) // no matter what is around it
}

// 7.2: texts and machines of all kinds.
func TestArgsAndDoneAsTheModel(t *testing.T) {
	r := steps(72)
	for range 20000 {
		s := someText(&r)
		v := api.Vm{Pc: r.next(len(s)+3) - 1, Stack: someNumbers(&r, 36)}
		x := r.word()
		want, _ := modelArgs(s, v)
		if got := vm.Args(s, v); !slices.Equal(got, want) {
			t.Fatalf("Args(%q, %v) = %v, want %v", s, v, got, want)
		}
		if got := vm.Done(s, v, x); !sameVm(got, modelDone(s, v, x)) {
			t.Fatalf("Done(%q, %v, %d) = %v", s, v, x, got)
		}
	}
}
