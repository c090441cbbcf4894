package code

import (
	"math"
	"slices"
	"strings"
	"testing"

	"janus/api"
)

// form is what the chapter says of an operation: how many bytes its operand has, and what it takes and puts.
type form struct {
	name       string
	op         int
	width      int
	take, puts int
}

// forms are all operations, the numbers written out; those of a system call hang on its Arg.
func forms() []form {
	return []form{
		{"push", 0, 1, 0, 1},
		{"word", 1, 8, 0, 1},
		{"dup", 2, 0, 1, 2},
		{"drop", 3, 0, 1, 0},
		{"swap", 4, 0, 2, 2},
		{"over", 5, 0, 2, 3},
		{"add", 6, 0, 2, 1},
		{"sub", 7, 0, 2, 1},
		{"mul", 8, 0, 2, 1},
		{"div", 9, 0, 2, 1},
		{"mod", 10, 0, 2, 1},
		{"and", 11, 0, 2, 1},
		{"or", 12, 0, 2, 1},
		{"xor", 13, 0, 2, 1},
		{"shl", 14, 0, 2, 1},
		{"shr", 15, 0, 2, 1},
		{"less", 16, 0, 2, 1},
		{"equal", 17, 0, 2, 1},
		{"not", 18, 0, 1, 1},
		{"load", 19, 0, 1, 1},
		{"store", 20, 0, 2, 0},
		{"jump", 21, 2, 0, 0},
		{"zero", 22, 2, 1, 0},
		{"sys", 23, 1, -1, -1},
	}
}

// greatest is the greatest Arg that so many bytes hold.
func greatest(width int) uint64 {
	return [9]uint64{0: 0, 1: 255, 2: 65535, 8: math.MaxUint64}[width]
}

// noOperations are numbers of which none is an operation, those among them that look like one when cut to a byte.
func noOperations() []int {
	return []int{-1, -2, -23, -24, -256, -255, -233, 24, 25, 100, 127, 128, 255, 256, 257, 279, 512, 65536, math.MinInt, math.MinInt + 1, math.MaxInt, math.MaxInt - 1, math.MinInt32, math.MaxInt32, math.MaxInt - 255}
}

// bytesOf is an instruction's text by the chapter's words, reckoned apart from the package.
func bytesOf(f form, arg uint64) string {
	b := []byte{byte(f.op)}
	for range f.width {
		b = append(b, byte(arg%256))
		arg /= 256
	}
	return string(b)
}

func wantEncode(t *testing.T, l []api.Ins, want string) {
	t.Helper()
	if got, e := Encode(l); got != want || e != api.OK {
		t.Errorf("Encode(%v) = %q, %d, want %q", l, got, e, want)
	}
}

func wantNoEncode(t *testing.T, l []api.Ins) {
	t.Helper()
	if got, e := Encode(l); got != "" || e != api.ErrArg {
		t.Errorf("Encode(%v) = %q, %d, want ErrArg and no text", l, got, e)
	}
}

func wantOne(t *testing.T, s string, at int, want api.Ins) {
	t.Helper()
	if got, e := One(s, at); got != want || e != api.OK {
		t.Errorf("One(%q, %d) = %v, %d, want %v", s, at, got, e, want)
	}
}

func wantNoOne(t *testing.T, s string, at int, want api.Errno) {
	t.Helper()
	if got, e := One(s, at); got != (api.Ins{}) || e != want {
		t.Errorf("One(%q, %d) = %v, %d, want %d and no instruction", s, at, got, e, want)
	}
}

func wantDecode(t *testing.T, s string, want ...api.Ins) {
	t.Helper()
	if got, e := Decode(s); !slices.Equal(got, want) || e != api.OK {
		t.Errorf("Decode(%q) = %v, %d, want %v", s, got, e, want)
	}
}

func wantNoDecode(t *testing.T, s string) {
	t.Helper()
	if got, e := Decode(s); len(got) != 0 || e != api.ENOEXEC {
		t.Errorf("Decode(%q) = %v, %d, want ENOEXEC and no list", s, got, e)
	}
}

func wantMoves(t *testing.T, i api.Ins, take, puts int) {
	t.Helper()
	if a, b := Moves(i); a != take || b != puts {
		t.Errorf("Moves(%v) = %d, %d, want %d, %d", i, a, b, take, puts)
	}
}

func TestExamples(t *testing.T) {
	wantEncode(t, []api.Ins{{Op: api.OpPush, Arg: 5}, {Op: api.OpSys, Arg: 1}}, "\x00\x05\x17\x01")
	wantEncode(t, []api.Ins{{Op: api.OpJump, Arg: 3}}, "\x15\x03\x00")
	wantDecode(t, "\x00\x05\x17\x01", api.Ins{Op: 0, Arg: 5, At: 0, Len: 2}, api.Ins{Op: 23, Arg: 1, At: 2, Len: 2})
	wantDecode(t, "\x15\x03\x00", api.Ins{Op: 21, Arg: 3, At: 0, Len: 3})
	wantNoOne(t, "\x18", 0, api.ENOEXEC)
}

// 5.1: each operation with the smallest and the greatest Arg that fits, and those beside them.
func TestEncodeEveryOperation(t *testing.T) {
	for _, f := range forms() {
		top := greatest(f.width)
		wantEncode(t, []api.Ins{{Op: f.op}}, bytesOf(f, 0))
		wantEncode(t, []api.Ins{{Op: f.op, Arg: top}}, bytesOf(f, top))
		if f.width > 0 {
			wantEncode(t, []api.Ins{{Op: f.op, Arg: 1}}, bytesOf(f, 1))
			wantEncode(t, []api.Ins{{Op: f.op, Arg: top - 1}}, bytesOf(f, top-1))
		}
		if f.width == 8 {
			continue
		}
		beyond := []uint64{top + 1, top + 2, 256 * (top + 1), 1 << 32, 1<<32 | top, 1 << 63, math.MaxUint64 - 1, math.MaxUint64} // one less than 0 is the last of them
		for _, arg := range beyond {
			wantNoEncode(t, []api.Ins{{Op: f.op, Arg: arg}})
		}
	}
}

// 5.1: of an Arg each bit stands at its place, the lowest byte first.
func TestOperandsLittleEndFirst(t *testing.T) {
	for _, f := range forms() {
		for bit := range 8 * f.width {
			arg := uint64(1) << bit
			want := make([]byte, 1+f.width)
			want[0] = byte(f.op)
			want[1+bit/8] = 1 << (bit % 8)
			wantEncode(t, []api.Ins{{Op: f.op, Arg: arg}}, string(want))
			wantOne(t, string(want), 0, api.Ins{Op: f.op, Arg: arg, Len: 1 + f.width})
		}
	}
	wantEncode(t, []api.Ins{{Op: api.OpWord, Arg: 0x0807060504030201}}, "\x01\x01\x02\x03\x04\x05\x06\x07\x08")
	wantOne(t, "\x01\x01\x02\x03\x04\x05\x06\x07\x08", 0, api.Ins{Op: api.OpWord, Arg: 0x0807060504030201, Len: 9})
	wantOne(t, "\x16\xfe\xff", 0, api.Ins{Op: api.OpZero, Arg: 0xfffe, Len: 3})
}

func TestEncodeNoOperation(t *testing.T) {
	good := api.Ins{Op: api.OpPush, Arg: 5}
	for _, op := range noOperations() {
		for _, arg := range []uint64{0, 1, 255, math.MaxUint64} {
			bad := api.Ins{Op: op, Arg: arg}
			wantNoEncode(t, []api.Ins{bad})
			wantNoEncode(t, []api.Ins{good, bad})
			wantNoEncode(t, []api.Ins{bad, good})
			wantNoEncode(t, []api.Ins{good, bad, good})
		}
	}
}

func TestEncodeRefusesAnyBadArg(t *testing.T) {
	good := api.Ins{Op: api.OpJump, Arg: 65535}
	for _, bad := range []api.Ins{{Op: api.OpPush, Arg: 256}, {Op: api.OpSys, Arg: 256}, {Op: api.OpJump, Arg: 65536}, {Op: api.OpZero, Arg: 65536}, {Op: api.OpDup, Arg: 1}, {Op: api.OpStore, Arg: 1 << 40}} {
		wantNoEncode(t, []api.Ins{bad, good})
		wantNoEncode(t, []api.Ins{good, good, bad})
	}
}

// 5.1: by Op and Arg alone.
func TestEncodeLooksNotAtAtAndLen(t *testing.T) {
	for _, at := range []int{-1, 0, 1, 77, math.MinInt, math.MaxInt} {
		for _, n := range []int{-1, 0, 1, 9, math.MinInt, math.MaxInt} {
			wantEncode(t, []api.Ins{{Op: api.OpAdd, At: at, Len: n}, {Op: api.OpWord, Arg: 2, At: at, Len: n}}, "\x06\x01\x02\x00\x00\x00\x00\x00\x00\x00")
			wantNoEncode(t, []api.Ins{{Op: api.OpPush, Arg: 256, At: at, Len: n}})
		}
	}
}

func TestNothing(t *testing.T) {
	wantEncode(t, nil, "")
	wantEncode(t, []api.Ins{}, "")
	wantDecode(t, "")
	for _, at := range []int{math.MinInt, -1, 0, 1, math.MaxInt} {
		wantNoOne(t, "", at, api.ErrArg)
	}
}

func TestOnePlaces(t *testing.T) {
	s := "\x00\x05\x06\x15\x02\x00\x03"
	for _, at := range []int{math.MinInt, math.MinInt + 1, -256, -7, -2, -1, 7, 8, 9, 256, math.MaxInt - 1, math.MaxInt} {
		wantNoOne(t, s, at, api.ErrArg)
	}
	want := []api.Ins{
		{Op: api.OpPush, Arg: 5, At: 0, Len: 2},
		{Op: api.OpOver, At: 1, Len: 1}, // an operand's byte is read as an operation by who begins there
		{Op: api.OpAdd, At: 2, Len: 1},
		{Op: api.OpJump, Arg: 2, At: 3, Len: 3},
		{Op: api.OpDup, At: 4, Len: 1},
		{Op: api.OpPush, Arg: 3, At: 5, Len: 2},
		{Op: api.OpDrop, At: 6, Len: 1},
	}
	for at, i := range want {
		wantOne(t, s, at, i)
	}
}

// 5.1: a place that is none is told ahead of a byte that is no operation.
func TestOnePlaceFirst(t *testing.T) {
	for _, s := range []string{"\x18", "\xff\xff", "\x00", "\x01\x00"} {
		for _, at := range []int{-1, len(s), len(s) + 1} {
			wantNoOne(t, s, at, api.ErrArg)
		}
		wantNoOne(t, s, 0, api.ENOEXEC)
	}
}

// 5.1: a text that ends at each byte of an instruction, and right behind it, with bytes ahead and without.
func TestTextsThatEnd(t *testing.T) {
	for _, ahead := range []string{"", "\x06", "\x00\x05\x06"} {
		for _, f := range forms() {
			whole := ahead + bytesOf(f, greatest(f.width)/3)
			at := len(ahead)
			for n := at + 1; n < len(whole); n++ {
				wantNoOne(t, whole[:n], at, api.ENOEXEC)
				wantNoDecode(t, whole[:n])
			}
			want := api.Ins{Op: f.op, Arg: greatest(f.width) / 3, At: at, Len: 1 + f.width}
			for _, behind := range []string{"", "\xff", "\x18\x00", "\x00"} { // what stands behind is not looked at
				wantOne(t, whole+behind, at, want)
			}
			wantNoOne(t, whole, len(whole), api.ErrArg)
			if l, e := Decode(whole); e != api.OK || len(l) == 0 || l[len(l)-1] != want {
				t.Errorf("Decode(%q) = %v, %d, want %v last", whole, l, e, want)
			}
		}
	}
}

func TestBytesThatAreNoOperation(t *testing.T) {
	behind := "\x00\x00\x00\x00\x00\x00\x00\x00\x00"
	for b := range 256 {
		op := string([]byte{byte(b)})
		if b < 24 {
			if i, e := One(op+behind, 0); e != api.OK || i.Op != b || i.Arg != 0 || i.At != 0 {
				t.Errorf("One of byte %d = %v, %d", b, i, e)
			}
			continue
		}
		for _, s := range []string{op, op + behind} {
			wantNoOne(t, s, 0, api.ENOEXEC)
			wantNoDecode(t, s)
			wantNoOne(t, "\x00\x05"+s, 2, api.ENOEXEC)
			wantNoDecode(t, "\x00\x05"+s)
			wantNoDecode(t, "\x01\x01\x02\x03\x04\x05\x06\x07\x08\x06"+s)
		}
		wantDecode(t, "\x00"+op, api.Ins{Op: api.OpPush, Arg: uint64(b), Len: 2}) // as an operand it is none the worse
	}
}

// 5.1: Decode begins at byte 0 and goes on right behind each instruction.
func TestDecodeGoesOnBehind(t *testing.T) {
	s := "\x17\x18\x16\xff\xff\x01\xff\x00\x00\x00\x00\x00\x00\x80\x11\x12\x00\x00"
	want := []api.Ins{
		{Op: api.OpSys, Arg: 24, At: 0, Len: 2},
		{Op: api.OpZero, Arg: 65535, At: 2, Len: 3},
		{Op: api.OpWord, Arg: 1<<63 | 255, At: 5, Len: 9},
		{Op: api.OpEqual, At: 14, Len: 1},
		{Op: api.OpNot, At: 15, Len: 1},
		{Op: api.OpPush, Arg: 0, At: 16, Len: 2},
	}
	wantDecode(t, s, want...)
	for _, i := range want {
		wantOne(t, s, i.At, i)
	}
}

// callArgs is how many numbers each call takes, by its number; 0 is no call.
func callArgs() []int {
	return []int{-1, 1, 0, 2, 1, 3, 1, 3, 3, 1, 1, 2, 2, 4, 4, 2, 2, 0, 0, 0}
}

func TestArgs(t *testing.T) {
	for call, want := range callArgs() {
		if got := Args(call); got != want {
			t.Errorf("Args(%d) = %d, want %d", call, got, want)
		}
	}
	for _, call := range []int{-1, -2, -19, -255, -256, 20, 21, 127, 128, 255, 256, 257, 258, 275, 1<<32 + 1, 1 << 31, math.MinInt, math.MinInt + 1, math.MaxInt} {
		if got := Args(call); got != -1 {
			t.Errorf("Args(%d) = %d, want -1", call, got)
		}
	}
	for call := 20; call < 1000; call++ {
		if Args(call) != -1 || Args(-call) != -1 {
			t.Errorf("Args(%d), Args(%d) = %d, %d, want -1", call, -call, Args(call), Args(-call))
		}
	}
}

// 5.2: what an operation moves hangs on it alone, but for a system call.
func TestMovesOfOperations(t *testing.T) {
	for _, f := range forms() {
		if f.op == api.OpSys {
			continue
		}
		for _, arg := range []uint64{0, 1, 20, 255, 256, 65536, math.MaxUint64} {
			wantMoves(t, api.Ins{Op: f.op, Arg: arg}, f.take, f.puts)
			wantMoves(t, api.Ins{Op: f.op, Arg: arg, At: -1, Len: math.MaxInt}, f.take, f.puts)
		}
	}
}

func TestMovesOfCalls(t *testing.T) {
	for call, n := range callArgs() {
		if call > 0 {
			wantMoves(t, api.Ins{Op: api.OpSys, Arg: uint64(call)}, n, 1)
			wantMoves(t, api.Ins{Op: api.OpSys, Arg: uint64(call), At: 7, Len: -7}, n, 1)
		}
		for _, more := range []uint64{256, 1 << 31, 1 << 32, 1 << 63, math.MaxUint64 - 255} { // what is left of it, cut short, is a call
			wantMoves(t, api.Ins{Op: api.OpSys, Arg: uint64(call) + more}, -1, -1)
		}
	}
	wantMoves(t, api.Ins{Op: api.OpSys}, -1, -1)
	for call := uint64(20); call < 1000; call++ {
		wantMoves(t, api.Ins{Op: api.OpSys, Arg: call}, -1, -1)
		wantMoves(t, api.Ins{Op: api.OpSys, Arg: -call}, -1, -1)
	}
	wantMoves(t, api.Ins{Op: api.OpSys, Arg: math.MaxUint64}, -1, -1)
	wantMoves(t, api.Ins{Op: api.OpSys, Arg: math.MaxInt64}, -1, -1)
}

func TestMovesOfNoOperation(t *testing.T) {
	for _, op := range noOperations() {
		for _, arg := range []uint64{0, 1, 2, 5, 255, math.MaxUint64} {
			wantMoves(t, api.Ins{Op: op, Arg: arg}, -1, -1)
		}
	}
	for b := 24; b < 600; b++ {
		wantMoves(t, api.Ins{Op: b}, -1, -1)
		wantMoves(t, api.Ins{Op: -b}, -1, -1)
	}
}

// steps is a row of numbers that is the same each time.
type steps uint64

func (s *steps) next(n int) int {
	*s = *s*6364136223846793005 + 1442695040888963407
	return int(uint64(*s) >> 33 % uint64(n))
}

func (s *steps) word() uint64 {
	return uint64(s.next(1<<22))<<44 ^ uint64(s.next(1<<22))<<22 ^ uint64(s.next(1<<22))
}

// program is a list of n good instructions, with At and Len, and its text, reckoned apart from the package.
func program(s *steps, n int) ([]api.Ins, string) {
	var l []api.Ins
	var b strings.Builder
	for range n {
		f := forms()[s.next(24)]
		arg := s.word() & greatest(f.width)
		l = append(l, api.Ins{Op: f.op, Arg: arg, At: b.Len(), Len: 1 + f.width})
		b.WriteString(bytesOf(f, arg))
	}
	return l, b.String()
}

// 5.3: there and back, from a list on and from a text on.
func TestThereAndBack(t *testing.T) {
	s := steps(5)
	for round := range 400 {
		l, text := program(&s, round%50)
		bare := slices.Clone(l)
		for k := range bare {
			bare[k].At, bare[k].Len = 0, 0
		}
		wantEncode(t, bare, text)
		wantDecode(t, text, l...)
		wantEncode(t, l, text)
	}
	l, text := program(&s, 70000) // past every place that a jump can name
	wantEncode(t, l, text)
	wantDecode(t, text, l...)
}

// 5.3: whatever text Decode reads, Encode writes it as it was; and Decode reads just what One does, step by step.
func TestAnyText(t *testing.T) {
	s := steps(6)
	read := 0
	for range 20000 {
		b := make([]byte, s.next(12))
		for k := range b {
			b[k] = byte(s.next(25))
		}
		text := string(b)
		want, bad := walk(text)
		if bad {
			wantNoDecode(t, text)
			continue
		}
		read++
		wantDecode(t, text, want...)
		wantEncode(t, want, text)
	}
	if read < 1000 || read > 19000 {
		t.Errorf("%d of the texts are programs: too few or too many to tell", read)
	}
}

// walk is Decode by One, from place to place; true: it came upon what is no instruction.
func walk(text string) ([]api.Ins, bool) {
	var l []api.Ins
	for at := 0; at < len(text); {
		i, e := One(text, at)
		if e != api.OK {
			return nil, true
		}
		l = append(l, i)
		at += i.Len
	}
	return l, false
}

// Each instruction of each operation behind each other one.
func TestPairs(t *testing.T) {
	for _, f := range forms() {
		for _, g := range forms() {
			a, b := greatest(f.width)/7, greatest(g.width)/5
			text := bytesOf(f, a) + bytesOf(g, b)
			first := api.Ins{Op: f.op, Arg: a, At: 0, Len: 1 + f.width}
			second := api.Ins{Op: g.op, Arg: b, At: 1 + f.width, Len: 1 + g.width}
			wantEncode(t, []api.Ins{first, second}, text)
			wantDecode(t, text, first, second)
		}
	}
}

// R4: what is handed in stays as it was, behind the list's end too, whether it is refused or not.
func TestEncodeLeavesItsListAlone(t *testing.T) {
	mark := api.Ins{Op: 99, Arg: 98, At: 97, Len: 96}
	for _, last := range []api.Ins{{Op: api.OpSys, Arg: 1, At: 50, Len: 60}, {Op: 24, At: 50, Len: 60}, {Op: api.OpDup, Arg: 1, At: 50, Len: 60}} {
		room := []api.Ins{{Op: api.OpPush, Arg: 5, At: 30, Len: 40}, last, mark, mark}
		before := slices.Clone(room)
		Encode(room[:2])
		if !slices.Equal(room, before) {
			t.Errorf("Encode made %v of %v", room, before)
		}
	}
}

// R4: what was handed in may be changed behind the call, and an answer does not follow.
func TestEncodeKeepsNothing(t *testing.T) {
	l := []api.Ins{{Op: api.OpPush, Arg: 5}, {Op: api.OpSys, Arg: 1}}
	got, _ := Encode(l)
	l[0], l[1] = api.Ins{Op: api.OpAdd}, api.Ins{Op: api.OpNot}
	if got != "\x00\x05\x17\x01" {
		t.Errorf("the answer became %q", got)
	}
	wantEncode(t, l, "\x06\x12")
}

// R4: two answers share no memory.
func TestDecodeHandsOutNewMemory(t *testing.T) {
	s := "\x00\x05\x17\x01"
	one, _ := Decode(s)
	two, _ := Decode(s)
	want := slices.Clone(two)
	for k := range one[:cap(one)] {
		one[:cap(one)][k] = api.Ins{Op: 99, Arg: 98, At: 97, Len: 96}
	}
	if !slices.Equal(two, want) {
		t.Errorf("the second answer became %v", two)
	}
	wantDecode(t, s, want...)
}

// R5: the same again, whatever was asked between.
func TestAnswersDoNotHangOnCallsAhead(t *testing.T) {
	for range 3 {
		wantEncode(t, []api.Ins{{Op: api.OpPush, Arg: 5}}, "\x00\x05")
		wantNoEncode(t, []api.Ins{{Op: api.OpPush, Arg: 5}, {Op: -1}})
		wantDecode(t, "\x00\x05", api.Ins{Op: api.OpPush, Arg: 5, Len: 2})
		wantNoDecode(t, "\x00\x05\x00")
		wantNoOne(t, "\x00", 0, api.ENOEXEC)
		wantOne(t, "\x06", 0, api.Ins{Op: api.OpAdd, Len: 1})
	}
}
