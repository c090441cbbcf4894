package vm_test

import (
	"slices"
	"strings"
	"testing"

	"janus/api"
	"janus/valid"
	"janus/vm"
)

// maker writes programs that may be run, of depths that it keeps count of.
type maker struct {
	r     *steps
	s     string
	depth int
}

// straight is an instruction that may stand where the stack has so many numbers, and goes on behind itself alone.
func (m *maker) straight() string {
	for {
		var s string
		switch o := m.r.next(23); o {
		case 0:
			s = push(m.r.next(9))
		case 1:
			s = word(m.r.word())
		case 21, 22:
			s = sys(1 + m.r.next(19))
		default:
			s = op(o)
		}
		if i, _ := read(s, 0); m.depth >= i.takes && m.depth-i.takes+i.puts <= 32 {
			m.depth += i.puts - i.takes
			return s
		}
	}
}

// program is a row of straight instructions, with OpZeros that pass over an even part of it, and a loop at its end.
func (m *maker) program() string {
	for range 3 + m.r.next(20) {
		if m.depth > 0 && m.r.next(6) == 0 {
			m.depth--
			m.s += zero(len(m.s) + 3 + 3) // over two instructions that leave the depth
			m.s += text(push(m.r.next(3)), op(api.OpDrop))
			continue
		}
		m.s += m.straight()
	}
	m.s += strings.Repeat(op(api.OpDrop), m.depth)
	return text(m.s, jump(0))
}

// excused tells whether a fault of the machine is a division by 0, or a Load or Store of an address that is not below size.
func excused(s string, v api.Vm, size int) bool {
	top := v.Stack[max(len(v.Stack)-1, 0):]
	if len(top) == 0 {
		return false
	}
	switch s[v.Pc] {
	case api.OpDiv, api.OpMod:
		return top[0] == 0 && len(v.Stack) >= 2
	case api.OpLoad, api.OpStore:
		return top[0] >= uint64(size)
	}
	return false
}

// follow runs a program that may be run, its calls answered by any numbers; it asks that each fault is excused, and answers how many Steps and calls there were.
func follow(t *testing.T, s string, r *steps) (int, int) {
	t.Helper()
	v, mem, n, calls := api.Vm{}, someNumbers(r, 20), 0, 0
	for n < 400 {
		var act api.Act
		var done int
		v, mem, act, done = vm.Run(s, v, mem, 1+r.next(40))
		n += done
		switch act.Kind {
		case api.ActSys:
			args, _ := argsOf(act.Sys)
			if got := vm.Args(s, v); len(got) != args || !slices.Equal(got, v.Stack[len(v.Stack)-args:]) {
				t.Fatalf("%q at %v: the call %d has %v", s, v, act.Sys, got)
			}
			v = vm.Done(s, v, r.word())
			n, calls = n+1, calls+1
		case api.ActFault:
			if !excused(s, v, len(mem)) {
				t.Fatalf("%q faults at %v with %d words", s, v, len(mem))
			}
			return n, calls
		}
		if len(v.Stack) > 32 {
			t.Fatalf("%q: %d numbers", s, len(v.Stack))
		}
	}
	return n, calls
}

// 7.4: programs that are made to be ones that may be run.
func TestProgramsThatMayBeRun(t *testing.T) {
	r := steps(75)
	ran, n, calls := 0, 0, 0
	for range 6000 {
		s := (&maker{r: &r}).program()
		if valid.Check(s) != api.OK {
			if len(s) <= api.MaxFile {
				t.Fatalf("%q may not be run: the test's own fault", s)
			}
			continue
		}
		done, asked := follow(t, s, &r)
		ran, n, calls = ran+1, n+done, calls+asked
	}
	if ran < 3000 || n < 10*ran || calls < ran {
		t.Errorf("%d programs, %d Steps, %d calls: too few to tell", ran, n, calls)
	}
}

// 7.4: programs of all kinds, of which those that may be run are followed.
func TestTextsThatMayBeRun(t *testing.T) {
	r := steps(76)
	ran := 0
	for range 120000 {
		s := ""
		for range 1 + r.next(6) {
			s += []string{push(r.next(3)), op(r.next(24)), op(api.OpDup), zero(r.next(12)), jump(r.next(12)), sys(r.next(20)), op(api.OpDrop)}[r.next(7)]
		}
		s += jump(r.next(len(s)))
		if valid.Check(s) == api.OK {
			follow(t, s, &r)
			ran++
		}
	}
	if ran < 1000 {
		t.Errorf("%d programs: too few to tell", ran)
	}
}

// 7.4: each of the faults that there may be comes, at the depth that valid tells.
func TestExcusedFaults(t *testing.T) {
	for _, x := range []struct {
		o    int
		have string
		n    int
	}{{api.OpDiv, text(push(7), push(0)), 2}, {api.OpMod, text(push(7), push(0)), 2}, {api.OpLoad, push(4), 1}, {api.OpStore, text(push(7), push(4)), 2}} {
		s := text(x.have, op(x.o), jump(len(x.have)+1))
		if e := valid.Check(s); e != api.OK {
			t.Fatalf("%q may not be run", s)
		}
		v, _, act, n := vm.Run(s, api.Vm{}, make([]uint64, 4), 9)
		if act != fault || n != x.n || v.Pc != len(x.have) || len(v.Stack) != x.n {
			t.Errorf("%q: %v %v %d", s, v, act, n)
		}
		if !excused(s, v, 4) {
			t.Errorf("%q at %v is not excused", s, v)
		}
	}
}

// 7.4: the fullest stack that valid lets be: 32 numbers, by pushes and by calls that take none.
func TestFullStackMayBeRun(t *testing.T) {
	for _, one := range []string{push(1), word(1), sys(api.SysGetpid)} {
		s := text(strings.Repeat(one, 20), strings.Repeat(sys(api.SysGetpid), 12), jump(20*len(one)+24))
		if len(s) > api.MaxFile {
			s = text(strings.Repeat(one, 1), strings.Repeat(sys(api.SysGetpid), 31), jump(len(one)+62))
		}
		if e := valid.Check(s); e != api.OK {
			t.Fatalf("%q may not be run", s)
		}
		r := steps(1)
		if n, _ := follow(t, s, &r); n < 400 {
			t.Errorf("%q ended after %d Steps", s, n)
		}
	}
}
