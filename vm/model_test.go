package vm_test

import (
	"math/big"
	"slices"
	"strings"
	"testing"

	"janus/api"
)

// The texts of instructions, by the document's words, reckoned apart from package code.

func push(n int) string  { return string([]byte{0, byte(n)}) }
func op(o int) string    { return string([]byte{byte(o)}) }
func jump(at int) string { return string([]byte{21, byte(at), byte(at >> 8)}) }
func zero(at int) string { return string([]byte{22, byte(at), byte(at >> 8)}) }
func sys(n int) string   { return string([]byte{23, byte(n)}) }

func word(x uint64) string {
	b := []byte{1}
	for range 8 {
		b = append(b, byte(x))
		x >>= 8
	}
	return string(b)
}

func text(parts ...string) string { return strings.Join(parts, "") }

// callArgs is how many numbers each call takes, by its number; 0 is no call.
func callArgs() []int {
	return []int{-1, 1, 0, 2, 1, 3, 1, 3, 3, 1, 1, 2, 2, 4, 4, 2, 2, 0, 0, 0}
}

// argsOf is how many numbers a call takes; false: it is none.
func argsOf(call int) (int, bool) {
	if call < 1 || call >= len(callArgs()) {
		return 0, false
	}
	return callArgs()[call], true
}

// ins is an instruction of the model, with what it takes and puts.
type ins struct {
	op, len     int
	arg         uint64
	takes, puts int
}

// read reads an instruction of a text; false: there is none.
func read(s string, at int) (ins, bool) {
	if at < 0 || at >= len(s) || s[at] > 23 {
		return ins{}, false
	}
	i := ins{op: int(s[at])}
	i.len = []int{2, 9, 1, 1, 1, 1, 1, 1, 1, 1, 1, 1, 1, 1, 1, 1, 1, 1, 1, 1, 1, 3, 3, 2}[i.op]
	if at+i.len > len(s) {
		return ins{}, false
	}
	for k := at + i.len - 1; k > at; k-- {
		i.arg = 256*i.arg + uint64(s[k])
	}
	i.takes = []int{0, 0, 1, 1, 2, 2, 2, 2, 2, 2, 2, 2, 2, 2, 2, 2, 2, 2, 1, 1, 2, 0, 1, 0}[i.op]
	i.puts = []int{1, 1, 2, 0, 2, 3, 1, 1, 1, 1, 1, 1, 1, 1, 1, 1, 1, 1, 1, 1, 0, 0, 0, 0}[i.op]
	if n, is := argsOf(int(i.arg)); i.op == 23 && is {
		i.takes, i.puts = n, 1
	}
	return i, true
}

func whole(x uint64) *big.Int { return new(big.Int).SetUint64(x) }

// reckon is what an operation makes of two numbers, by whole numbers without a bound; false: it divides by 0.
func reckon(o int, a, b uint64) (uint64, bool) {
	x, y, z := whole(a), whole(b), new(big.Int)
	two64 := new(big.Int).Lsh(big.NewInt(1), 64)
	switch o {
	case 6:
		z.Add(x, y)
	case 7:
		z.Sub(x, y)
	case 8:
		z.Mul(x, y)
	case 9, 10:
		if b == 0 {
			return 0, false
		}
		rest := new(big.Int)
		z.QuoRem(x, y, rest)
		if o == 10 {
			z = rest
		}
	case 11:
		z.And(x, y)
	case 12:
		z.Or(x, y)
	case 13:
		z.Xor(x, y)
	case 14:
		if y.Cmp(big.NewInt(64)) < 0 {
			z.Lsh(x, uint(y.Int64()))
		}
	case 15:
		if y.Cmp(big.NewInt(64)) < 0 {
			z.Rsh(x, uint(y.Int64()))
		}
	case 16:
		if x.Cmp(y) < 0 {
			z.SetInt64(1)
		}
	case 17:
		if x.Cmp(y) == 0 {
			z.SetInt64(1)
		}
	}
	return z.Mod(z, two64).Uint64(), true
}

// modelStep is Step by the chapter's words.
func modelStep(s string, v api.Vm) (api.Vm, api.Act) {
	i, there := read(s, v.Pc)
	height := len(v.Stack)
	if !there || height < i.takes || height-i.takes+i.puts > 32 {
		return v, api.Act{Kind: 4}
	}
	left := slices.Clone(v.Stack[:height-i.takes])
	var a, b uint64
	if i.takes >= 1 {
		b = v.Stack[height-1]
	}
	if i.takes >= 2 {
		a = v.Stack[height-2]
	}
	next := v.Pc + i.len
	leave := func(l ...uint64) (api.Vm, api.Act) { return api.Vm{Pc: next, Stack: append(left, l...)}, api.Act{} }
	switch i.op {
	case 0, 1:
		return leave(i.arg)
	case 2:
		return leave(b, b)
	case 4:
		return leave(b, a)
	case 5:
		return leave(a, b, a)
	case 18:
		return leave(map[bool]uint64{true: 1}[b == 0])
	case 19:
		return api.Vm{Pc: next, Stack: left}, api.Act{Kind: 1, Addr: b}
	case 20:
		return api.Vm{Pc: next, Stack: left}, api.Act{Kind: 2, Addr: b, Value: a}
	case 21:
		next = int(i.arg)
	case 22:
		if b == 0 {
			next = int(i.arg)
		}
	case 23:
		return v, api.Act{Kind: 3, Sys: int(i.arg)}
	}
	if i.op < 6 || i.op > 17 {
		return leave()
	}
	x, is := reckon(i.op, a, b)
	if !is {
		return v, api.Act{Kind: 4}
	}
	return leave(x)
}

// modelArgs is Args; false: there is no such OpSys.
func modelArgs(s string, v api.Vm) ([]uint64, bool) {
	i, there := read(s, v.Pc)
	if !there || i.op != 23 {
		return nil, false
	}
	n, is := argsOf(int(i.arg))
	if !is || len(v.Stack) < n {
		return nil, false
	}
	return v.Stack[len(v.Stack)-n:], true
}

func modelDone(s string, v api.Vm, x uint64) api.Vm {
	l, is := modelArgs(s, v)
	if !is {
		return v
	}
	return api.Vm{Pc: v.Pc + 2, Stack: append(slices.Clone(v.Stack[:len(v.Stack)-len(l)]), x)}
}

func modelRun(s string, v api.Vm, mem []uint64, fuel int) (api.Vm, []uint64, api.Act, int) {
	mem = slices.Clone(mem)
	n := 0
	for n < fuel {
		next, act := modelStep(s, v)
		switch act.Kind {
		case 3, 4:
			return v, mem, act, n
		case 1, 2:
			if whole(act.Addr).Cmp(big.NewInt(int64(len(mem)))) >= 0 {
				return v, mem, api.Act{Kind: 4}, n
			}
		}
		switch act.Kind {
		case 1:
			next.Stack = append(next.Stack, mem[act.Addr])
		case 2:
			mem[act.Addr] = act.Value
		}
		v = next
		n++
	}
	return v, mem, api.Act{}, n
}

// sameVm tells whether two machines are at one place with the same numbers.
func sameVm(v, w api.Vm) bool { return v.Pc == w.Pc && slices.Equal(v.Stack, w.Stack) }

// at is a machine at a place with these numbers.
func at(pc int, l ...uint64) api.Vm { return api.Vm{Pc: pc, Stack: l} }

// rise is the numbers from 1 to n: all of them differ, and none is 0.
func rise(n int) []uint64 {
	l := make([]uint64, n)
	for k := range l {
		l[k] = uint64(k + 1)
	}
	return l
}

// numbers are small ones, powers of 2 and their neighbours.
func numbers() []uint64 {
	var l []uint64
	for _, bit := range []int{0, 1, 2, 3, 5, 6, 7, 8, 15, 16, 31, 32, 33, 48, 62, 63} {
		x := uint64(1) << bit
		l = append(l, x-1, x, x+1, -x, -x-1, -x+1)
	}
	l = append(l, 10, 100, 0xf0f0f0f0f0f0f0f0, 0x0123456789abcdef, 6364136223846793005)
	slices.Sort(l)
	return slices.Compact(l)
}

// steps is a row of numbers that look as if they came by chance, the same in each run.
type steps uint64

func (s *steps) next(below int) int {
	*s = *s*6364136223846793005 + 1442695040888963407
	return int(uint64(*s>>33) % uint64(below))
}

func (s *steps) word() uint64 {
	l := numbers()
	if s.next(3) == 0 {
		return uint64(s.next(1<<31))<<33 ^ uint64(s.next(1<<31))
	}
	if s.next(2) == 0 {
		return uint64(s.next(12))
	}
	return l[s.next(len(l))]
}

// wantStep asks that Step answers this.
func wantStep(t *testing.T, s string, v api.Vm, want api.Vm, wantAct api.Act) {
	t.Helper()
	got, act := step(t, s, v)
	if !sameVm(got, want) || act != wantAct {
		t.Errorf("Step(%q, %v) = %v, %v, want %v, %v", s, v, got, act, want, wantAct)
	}
}

// wantFault asks that Step answers ActFault, and the machine as it was.
func wantFault(t *testing.T, s string, v api.Vm) {
	t.Helper()
	wantStep(t, s, v, v, api.Act{Kind: api.ActFault})
}
