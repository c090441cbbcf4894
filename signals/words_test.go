package signals_test

import (
	"math"
	"slices"
	"testing"

	"janus/api"
	"janus/signals"
)

// one is what the words tell of a process.
type one struct {
	handlers map[int]uint64 // those that are not there are default
	pending  uint64
	v        *api.Vm // nil, unless it is in a handler
}

func (o one) words() []uint64 {
	w := slices.Repeat([]uint64{byDefault}, 15)
	for sig, h := range o.handlers {
		w[sig-1] = h
	}
	if o.v == nil {
		return append(w, o.pending, 0)
	}
	w = append(w, o.pending, 1, uint64(o.v.Pc), uint64(len(o.v.Stack)))
	return append(w, o.v.Stack...)
}

// in is a process that is in a handler.
func in(v api.Vm) one { return one{v: &v} }

// words is those of the first processes, as they are told; the others are as at first.
func words(first ...one) []uint64 {
	var w []uint64
	for _, o := range append(slices.Clone(first), make([]one, 8-len(first))...) {
		w = append(w, o.words()...)
	}
	return w
}

// nth is the words where that process alone is not as at first.
func nth(pid int, o one) []uint64 { return words(append(make([]one, pid-1), o)...) }

// wantBack asks for the same one from its words, and answers that.
func wantBack(t *testing.T, s *signals.Signals) *signals.Signals {
	t.Helper()
	return wantRead(t, s.Encode())
}

// wantWords asks for the words behind the steps, and for the same back from them; both are used up.
func wantWords(t *testing.T, want []uint64, steps ...step) {
	t.Helper()
	s := play(t, append(steps, encode().words(want))...)
	wantSame(t, encode(), wantBack(t, s), s)
}

// wantNone asks for a refusal.
func wantNone(t *testing.T, w []uint64) {
	t.Helper()
	if s, e := signals.Decode(w); s != nil || e != api.ErrArg {
		t.Errorf("Decode of %d words, %v = %v, %d, want nil, ErrArg", len(w), w[:min(200, len(w))], s, e)
	}
}

// wantRead asks for the one whose Encode is w.
func wantRead(t *testing.T, w []uint64) *signals.Signals {
	t.Helper()
	s, e := signals.Decode(w)
	if s == nil || e != api.OK {
		t.Fatalf("Decode(%v) = %v, %d", w, s, e)
	}
	if v := s.Encode(); !slices.Equal(v, w) {
		t.Fatalf("%v became %v", w, v)
	}
	return s
}

func TestEncodeOfNothing(t *testing.T) {
	if w := words(); len(w) != 8*17 || w[0] != 1<<64-1 || w[15] != 0 || w[16] != 0 || w[17] != 1<<64-1 {
		t.Fatalf("the words asked for are %v", w)
	}
	wantWords(t, words())
	wantWords(t, words(), send(1, 2).ok(), set(1, 3, 40).ok(), enter(1, at(4, 5)).ok(), gone(1).ok())
	wantWords(t, words(), send(1, 2).ok(), next(1).tells(2, byDefault), set(1, 3, 40).ok(), set(1, 3, byDefault).ok(), enter(1, at(4, 5)).ok(), leave(1).gives(at(4, 5)))
}

func TestEncodeOfHandlers(t *testing.T) {
	for _, pid := range allPids() {
		for _, sig := range others() {
			for _, h := range places() {
				wantWords(t, nth(pid, one{handlers: map[int]uint64{sig: h}}), set(pid, sig, h).ok())
			}
		}
		all := map[int]uint64{}
		var l []step
		for _, sig := range others() {
			all[sig] = uint64(100 + sig)
			l = append(l, set(pid, sig, uint64(100+sig)).ok())
		}
		wantWords(t, nth(pid, one{handlers: all}), l...)
	}
}

func TestEncodeOfWhatIsPending(t *testing.T) {
	for _, pid := range allPids() {
		for _, sig := range allSigs() {
			wantWords(t, nth(pid, one{pending: 1 << sig}), send(pid, sig).ok())
			wantWords(t, nth(pid, one{pending: 1 << sig}), send(pid, sig).ok(), send(pid, sig).ok())
		}
		wantWords(t, nth(pid, one{pending: 1<<16 - 2}), sent(pid, allSigs()...)...)
	}
	wantWords(t, words(one{pending: 1<<2 + 1<<10 + 1<<9}), sent(1, 10, 2, 9, 2)...)
	wantWords(t, words(one{handlers: map[int]uint64{3: toIgnore}, pending: 1 << 3}), append(ignored(1, 3), send(1, 3).ok())...)
}

func TestEncodeInAHandler(t *testing.T) {
	for _, pid := range allPids() {
		for _, n := range []int{0, 1, 2, 31, 32} {
			for _, pc := range []int{0, 1, 1<<20 - 1, 1 << 20} {
				v := at(pc, stack(n)...)
				wantWords(t, nth(pid, in(v)), enter(pid, v).ok())
			}
		}
		wantWords(t, nth(pid, in(at(3, 0, 0))), enter(pid, at(3, 0, 0)).ok())
		wantWords(t, nth(pid, in(at(3, 1<<64-1, 0, 1<<63))), enter(pid, at(3, 1<<64-1, 0, 1<<63)).ok())
	}
}

// What Enter keeps is told whole, whether or not it can be read again.
func TestEncodeOfMachinesOfAnyKind(t *testing.T) {
	for _, v := range machines() {
		play(t, enter(3, v).ok(), encode().words(words(one{}, one{}, in(v))))
	}
	play(t, enter(1, at(-1)).ok(), encode().words(words(in(at(-1)))))
	if w := words(in(at(-1))); w[17] != 1<<64-1 {
		t.Errorf("the words asked for are %v", w)
	}
}

func TestEncodeOfAll(t *testing.T) {
	var l []step
	var all []one
	for _, pid := range allPids() {
		o := in(at(pid, stack(4*pid)...))
		o.handlers = map[int]uint64{pid: uint64(pid), 15: toIgnore}
		o.pending = 1<<9 | 1<<(pid+1) | 1<<15
		all = append(all, o)
		l = append(l, set(pid, pid, uint64(pid)).ok(), set(pid, 15, toIgnore).ok(), enter(pid, *o.v).ok())
		l = append(l, sent(pid, 9, pid+1, 15)...)
	}
	wantWords(t, words(all...), l...)
	wantWords(t, play(t, busy()...).Encode(), busy()...)
}

func TestEncodeBehindEachCall(t *testing.T) {
	seven := map[int]uint64{2: 40, 3: toIgnore}
	forked := in(at(4, 5))
	forked.handlers = seven
	play(t,
		set(1, 2, 40).ok(), set(1, 3, toIgnore).ok(), encode().words(words(one{handlers: seven})),
		send(1, 3).ok(), send(1, 4).ok(), send(1, 2).ok(), encode().words(words(one{handlers: seven, pending: 1<<2 + 1<<3 + 1<<4})),
		next(1).tells(2, 40), encode().words(words(one{handlers: seven, pending: 1<<3 + 1<<4})),
		enter(1, at(4, 5)).ok(), encode().words(words(one{handlers: seven, pending: 1<<3 + 1<<4, v: forked.v})),
		next(1).none(), encode().words(words(one{handlers: seven, pending: 1<<3 + 1<<4, v: forked.v})),
		fork(1, 2).ok(), encode().words(words(one{handlers: seven, pending: 1<<3 + 1<<4, v: forked.v}, forked)),
		leave(1).gives(at(4, 5)), encode().words(words(one{handlers: seven, pending: 1<<3 + 1<<4}, forked)),
		next(1).tells(4, byDefault), encode().words(words(one{handlers: seven}, forked)),
		send(1, 3).ok(), encode().words(words(one{handlers: seven, pending: 1 << 3}, forked)),
		next(1).none(), encode().words(words(one{handlers: seven}, forked)),
		clears(2).ok(), encode().words(words(one{handlers: seven}, one{handlers: map[int]uint64{3: toIgnore}})),
		gone(1).ok(), encode().words(words(one{}, one{handlers: map[int]uint64{3: toIgnore}})),
	)
}

// 9 leaves what is pending beside it, above and below.
func TestEncodeBehind9(t *testing.T) {
	all := map[int]uint64{1: toIgnore, 2: 40, 8: toIgnore, 10: toIgnore, 15: toIgnore}
	l := joined(ignored(1, 1, 8, 10, 15), steps(set(1, 2, 40).ok()), sent(1, 1, 2, 8, 9, 10, 15))
	left := uint64(1<<1 + 1<<2 + 1<<8 + 1<<10 + 1<<15)
	play(t, joined(l, steps(next(1).tells(9, byDefault), encode().words(words(one{handlers: all, pending: left})),
		next(1).tells(2, 40), encode().words(words(one{handlers: all, pending: left &^ (1<<1 + 1<<2)})),
		next(1).none(), encode().words(words(one{handlers: all}))))...)
	v := at(3)
	play(t, joined(l, steps(enter(1, v).ok(), next(1).tells(9, byDefault), encode().words(words(one{handlers: all, pending: left, v: &v})),
		next(1).none(), encode().words(words(one{handlers: all, pending: left, v: &v}))))...)
}

// good is words that can be read.
func good() [][]uint64 {
	full := in(at(1<<20, stack(32)...))
	full.pending = 1<<16 - 2
	full.handlers = map[int]uint64{1: 0, 8: toIgnore, 10: 1 << 63, 15: 40}
	return [][]uint64{
		words(),
		words(one{pending: 1 << 1}),
		words(one{handlers: map[int]uint64{1: 0, 2: 1, 15: toIgnore}}, one{pending: 1 << 15}),
		words(in(at(0))),
		words(one{}, in(at(7, 1, 0)), one{}, in(at(1<<20, stack(32)...))),
		nth(8, in(at(5, 6))),
		nth(8, in(at(5))),
		words(slices.Repeat([]one{full}, 8)...),
		words(slices.Repeat([]one{in(at(0))}, 8)...),
	}
}

func TestDecodeOfGoodWords(t *testing.T) {
	for _, w := range good() {
		wantSame(t, encode(), wantBack(t, wantRead(t, w)), wantRead(t, w))
	}
	s := wantRead(t, words(one{handlers: map[int]uint64{2: 40, 3: toIgnore}, pending: 1<<2 + 1<<3 + 1<<4}, in(at(7, 1, 0))))
	for _, x := range steps(
		leave(1).fails(api.EINVAL), next(1).tells(2, 40), next(1).tells(4, byDefault), next(1).none(),
		enter(2, at(0)).fails(api.EINVAL), leave(2).gives(at(7, 1, 0)), leave(2).fails(api.EINVAL), next(2).none(),
		send(1, 9).ok(), next(1).tells(9, byDefault), send(8, 3).ok(), next(8).tells(3, byDefault),
	) {
		if got := x.on(s); !got.same(x.want) {
			t.Errorf("%v answers %v, want %v", x.call, got, x.want)
		}
	}
}

func TestDecodeOfOtherThanItsLength(t *testing.T) {
	wantNone(t, nil)
	wantNone(t, []uint64{})
	for n := range 300 {
		wantNone(t, make([]uint64, n)) // 9's handler is a place there
		if n != 8*17 {
			wantNone(t, slices.Concat(slices.Repeat(one{}.words(), n/17), one{}.words()[:n%17]))
		}
	}
	for _, w := range good() {
		for n := range len(w) {
			wantNone(t, w[:n]) // what lies behind its end is none of a list's
		}
		for _, more := range []uint64{0, 1, math.MaxUint64} {
			wantNone(t, append(slices.Clone(w), more))
			wantNone(t, append([]uint64{more}, w...))
		}
		wantNone(t, append(slices.Clone(w), one{}.words()...))
		wantNone(t, append(slices.Clone(w), w...))
	}
	wantNone(t, slices.Repeat(one{}.words(), 1<<16))
	wantNone(t, slices.Repeat([]uint64{math.MaxUint64}, 1<<20))
}

// wide is words that are no small numbers, among them some that would be if bits were lost, or if they were counted round.
func wide() []uint64 {
	return []uint64{1 << 16, 1 << 17, 1<<20 + 1, 1 << 31, 1 << 32, 1<<32 + 1, 1<<32 + 2, 1<<32 + 8, 1 << 60, 1<<61 + 1, 1 << 62, 1<<62 + 1, 1<<63 - 1, 1 << 63, 1<<63 + 1, 1<<63 + 2, 1<<63 + 8, math.MaxUint64 - 32, math.MaxUint64 - 2, math.MaxUint64 - 1, math.MaxUint64}
}

func TestDecodeOfPendingThatIsNoSignal(t *testing.T) {
	for pid := 1; pid <= lastPid; pid++ {
		for b := range 64 {
			for _, beside := range []uint64{0, 1 << 2, 1<<16 - 2} {
				w := nth(pid, one{pending: 1<<b | beside})
				if isSig(b) {
					wantRead(t, w)
				} else {
					wantNone(t, w)
				}
			}
		}
	}
	for all := range uint64(1 << 17) {
		if all&1 == 1 || all >= 1<<16 {
			wantNone(t, words(one{pending: all}))
		} else if all%64 == 0 {
			wantRead(t, words(one{pending: all}))
		}
	}
}

func TestDecodeOfAMarkThatIsNone(t *testing.T) {
	bad := wide()
	for v := uint64(2); v < 300; v++ {
		bad = append(bad, v)
	}
	for pid := 1; pid <= lastPid; pid++ {
		for _, v := range bad {
			w := words()
			w[17*pid-1] = v
			wantNone(t, w)
			w = nth(pid, in(at(0)))
			w[17*pid-1] = v
			wantNone(t, w)
			w = nth(pid, in(at(4, 5, 6)))
			w[17*pid-1] = v
			wantNone(t, w)
		}
	}
	w := nth(2, in(at(0)))
	w[17*2-1] = 0
	wantNone(t, w)
	w = words()
	w[17*8-1] = 1
	wantNone(t, w)
}

func TestDecodeOfPc(t *testing.T) {
	for pid := 1; pid <= lastPid; pid++ {
		for _, n := range []int{0, 1, 32} {
			w := nth(pid, in(at(0, stack(n)...)))
			for _, pc := range []uint64{0, 1, 255, 1 << 16, 1<<20 - 1, 1 << 20} {
				w[17*pid] = pc
				wantRead(t, w)
			}
			for _, pc := range []uint64{1<<20 + 1, 1<<20 + 2, 1 << 21, 1 << 31, 1 << 32, 1<<32 + 1, 1 << 62, 1<<63 - 1, 1 << 63, 1<<63 + 1, 1<<64 - 1<<20, math.MaxUint64 - 1, math.MaxUint64} {
				w[17*pid] = pc
				wantNone(t, w)
			}
		}
	}
}

func TestDecodeOfACount(t *testing.T) {
	for pid := 1; pid <= lastPid; pid++ {
		for n := range 70 {
			w := nth(pid, in(at(3, stack(n)...)))
			if n <= 32 {
				wantRead(t, w)
			} else {
				wantNone(t, w)
			}
		}
		for _, n := range append(wide(), 33, 34, 64, 100) {
			for _, there := range []int{0, 1, 2, 32, 33, 100} {
				w := nth(pid, in(at(3, stack(there)...)))
				w[17*pid+1] = n
				if n != uint64(there) || n > 32 {
					wantNone(t, w)
				}
			}
		}
	}
}

// The last process's stack has nothing behind it that could be read in its place.
func TestDecodeOfACountAndFewerNumbers(t *testing.T) {
	for n := range 35 {
		for there := range 37 {
			w := nth(8, in(at(3, stack(there)...)))
			w[17*8+1] = uint64(n)
			roomier := append(slices.Clone(w), make([]uint64, 50)...)[:len(w)]
			if n == there && n <= 32 {
				wantRead(t, w)
				wantRead(t, roomier)
			} else {
				wantNone(t, w)
				wantNone(t, roomier)
			}
		}
	}
	w := nth(8, in(at(3)))
	wantNone(t, w[:len(w)-1])
	wantNone(t, w[:len(w)-2])
}

func TestDecodeOfAHandler(t *testing.T) {
	for pid := 1; pid <= lastPid; pid++ {
		for _, h := range append(places(), wide()...) {
			for _, sig := range others() {
				wantRead(t, nth(pid, one{handlers: map[int]uint64{sig: h}}))
			}
			w := nth(pid, one{handlers: map[int]uint64{9: h}})
			if h == byDefault {
				wantRead(t, w)
			} else {
				wantNone(t, w)
			}
		}
	}
}

// read is Decode once more, in the words of the model: what it makes of the words, if that has these words.
func read(w []uint64) (*model, bool) {
	m := newModel()
	i := 0
	next := func() uint64 {
		if i++; i > len(w) {
			return math.MaxUint64
		}
		return w[i-1]
	}
	for _, pid := range allPids() {
		for _, sig := range others() {
			if sig == 10 {
				next() // 9's
			}
			m.handlers[pid][sig] = next()
		}
		pending := next()
		for _, sig := range allSigs() {
			if pending>>sig&1 == 1 {
				m.pending[pid][sig] = true
			}
		}
		if next() == 1 {
			v := at(int(min(next(), 1<<20)))
			for n := min(next(), 32); n > 0; n-- {
				v.Stack = append(v.Stack, next())
			}
			m.kept[pid] = &v
		}
	}
	return m, slices.Equal(m.encode(), w)
}

// wantAsRead asks Decode for what read says, and answers whether that is something.
func wantAsRead(t *testing.T, w []uint64) bool {
	t.Helper()
	m, ok := read(w)
	if !ok {
		wantNone(t, w)
		return false
	}
	s := wantRead(t, w)
	for _, pid := range allPids() {
		wantLike(t, 0, s, m, next(pid), leave(pid), next(pid))
	}
	wantLike(t, 0, s, m, encode())
	return true
}

// Each word of words that can be read, changed to each that may be wrong.
func TestDecodeOfAnyOneWordChanged(t *testing.T) {
	can, cannot := 0, 0
	for _, w := range good() {
		for i := range w {
			for _, v := range append(wide(), 0, 1, 2, 3, 4, 7, 31, 32, 33, 255, 1<<9, 1<<16-1, 1<<16-2, 1<<20) {
				bad := slices.Clone(w)
				bad[i] = v
				if wantAsRead(t, bad) {
					can++
				} else {
					cannot++
				}
			}
		}
	}
	if can < 1000 || cannot < 1000 {
		t.Errorf("%d were read, %d were not", can, cannot)
	}
}

// Words that are changed at one or two places, cut, or drawn whole.
func TestDecodeOfDrawnWords(t *testing.T) {
	can, cannot := 0, 0
	for seed := range 3000 {
		d := dice(seed)
		s := fresh(t)
		for range d.below(60) {
			d.call(8).on(s)
		}
		w := s.Encode()
		for range d.below(3) {
			w[d.below(len(w))] = pickOf(&d, append(wide(), 0, 0, 0, 1, 1, 2, 4, 32, 33, 1<<9, 1<<16-2))
		}
		if d.below(10) == 0 {
			w = w[:d.below(len(w))]
		}
		if d.below(20) == 0 {
			for i := range w {
				w[i] = pickOf(&d, []uint64{0, 1, 2, byDefault, toIgnore})
			}
		}
		if wantAsRead(t, w) {
			can++
		} else {
			cannot++
		}
	}
	if can < 500 || cannot < 500 {
		t.Errorf("%d were read, %d were not", can, cannot)
	}
}

// What one has is told, wherever in the words it comes: they are as long as the stacks are.
func TestDecodeBehindStacksOfAnyLength(t *testing.T) {
	for n := range 33 {
		for m := range 33 {
			o := in(at(m, stack(m)...))
			o.handlers = map[int]uint64{2: 40}
			o.pending = 1 << 2
			wantRead(t, words(in(at(n, stack(n)...)), o, one{pending: 1 << 9}))
		}
	}
}
