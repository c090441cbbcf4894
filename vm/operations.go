package vm

import "janus/api"

// operation is what an instruction does to a machine that is behind it already, if it can be done; one field is nil.
type operation struct {
	reckon func(a, b uint64) uint64           // the number that comes in place of two
	do     func(v *api.Vm, i api.Ins) api.Act // all else
}

// operations are all of them, by their numbers.
type operations [api.OpSys + 1]operation

func allOperations() operations {
	return operations{
		api.OpPush:  {do: pushArg},
		api.OpWord:  {do: pushArg},
		api.OpDup:   {do: dup},
		api.OpDrop:  {do: drop},
		api.OpSwap:  {do: swap},
		api.OpOver:  {do: over},
		api.OpAdd:   {reckon: func(a, b uint64) uint64 { return a + b }},
		api.OpSub:   {reckon: func(a, b uint64) uint64 { return a - b }},
		api.OpMul:   {reckon: func(a, b uint64) uint64 { return a * b }},
		api.OpDiv:   {reckon: func(a, b uint64) uint64 { return a / b }},
		api.OpMod:   {reckon: func(a, b uint64) uint64 { return a % b }},
		api.OpAnd:   {reckon: func(a, b uint64) uint64 { return a & b }},
		api.OpOr:    {reckon: func(a, b uint64) uint64 { return a | b }},
		api.OpXor:   {reckon: func(a, b uint64) uint64 { return a ^ b }},
		api.OpShl:   {reckon: func(a, b uint64) uint64 { return a << b }},
		api.OpShr:   {reckon: func(a, b uint64) uint64 { return a >> b }},
		api.OpLess:  {reckon: func(a, b uint64) uint64 { return truth(a < b) }},
		api.OpEqual: {reckon: func(a, b uint64) uint64 { return truth(a == b) }},
		api.OpNot:   {do: not},
		api.OpLoad:  {do: load},
		api.OpStore: {do: store},
		api.OpJump:  {do: jump},
		api.OpZero:  {do: jumpIfZero},
		api.OpSys:   {do: ask},
	}
}

func pushArg(v *api.Vm, i api.Ins) api.Act {
	push(v, i.Arg)
	return api.Act{}
}

func dup(v *api.Vm, _ api.Ins) api.Act {
	b := pop(v)
	push(v, b, b)
	return api.Act{}
}

func drop(v *api.Vm, _ api.Ins) api.Act {
	pop(v)
	return api.Act{}
}

func swap(v *api.Vm, _ api.Ins) api.Act {
	b, a := pop(v), pop(v)
	push(v, b, a)
	return api.Act{}
}

func over(v *api.Vm, _ api.Ins) api.Act {
	b, a := pop(v), pop(v)
	push(v, a, b, a)
	return api.Act{}
}

func not(v *api.Vm, _ api.Ins) api.Act {
	push(v, truth(pop(v) == 0))
	return api.Act{}
}

func load(v *api.Vm, _ api.Ins) api.Act {
	return api.Act{Kind: api.ActLoad, Addr: pop(v)}
}

func store(v *api.Vm, _ api.Ins) api.Act {
	b, a := pop(v), pop(v)
	return api.Act{Kind: api.ActStore, Addr: b, Value: a}
}

func jump(v *api.Vm, i api.Ins) api.Act {
	v.Pc = int(i.Arg)
	return api.Act{}
}

func jumpIfZero(v *api.Vm, i api.Ins) api.Act {
	if pop(v) == 0 {
		v.Pc = int(i.Arg)
	}
	return api.Act{}
}

// ask leaves the machine at the OpSys: Done goes behind it, when the call is answered.
func ask(v *api.Vm, i api.Ins) api.Act {
	v.Pc = i.At
	return api.Act{Kind: api.ActSys, Sys: int(i.Arg)}
}

func pop(v *api.Vm) uint64 {
	last := len(v.Stack) - 1
	x := v.Stack[last]
	v.Stack = v.Stack[:last]
	return x
}

func push(v *api.Vm, l ...uint64) {
	v.Stack = append(v.Stack, l...)
}

func truth(is bool) uint64 {
	if is {
		return 1
	}
	return 0
}
