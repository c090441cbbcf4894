package pipes_test

import (
	"math"
	"slices"
	"testing"

	"janus/api"
	"janus/pipes"
)

// holding is the words of one pipe.
func holding(s string) []uint64 {
	w := []uint64{1, uint64(len(s))}
	for i := range len(s) {
		w = append(w, uint64(s[i]))
	}
	return w
}

// gap is the words of a number that no pipe has.
func gap() []uint64 { return []uint64{0} }

// words is those of the first numbers, as they are told; the others have none.
func words(first ...[]uint64) []uint64 {
	return append(slices.Concat(first...), make([]uint64, 16-len(first))...)
}

// wantBack asks for the same one from its words, and answers that.
func wantBack(t *testing.T, p *pipes.Pipes) *pipes.Pipes {
	t.Helper()
	w := p.Encode()
	back := wantRead(t, w)
	for _, c := range looksAt() {
		if got, want := c.on(back), c.on(p); !got.same(want) {
			t.Fatalf("from words: %v answers %v, want %v", c, got, want)
		}
	}
	return back
}

// wantWords asks for the words behind the steps, and for the same back from them; both are used up.
func wantWords(t *testing.T, want []uint64, steps ...step) {
	t.Helper()
	p := play(t, append(steps, encode().words(want))...)
	wantSame(t, encode(), wantBack(t, p), p)
}

// wantNone asks for a refusal.
func wantNone(t *testing.T, w []uint64) {
	t.Helper()
	if p, e := pipes.Decode(w); p != nil || e != api.ErrArg {
		t.Errorf("Decode(%v) = %v, %d, want nil, ErrArg", w, p, e)
	}
}

// wantRead asks for the one whose Encode is w.
func wantRead(t *testing.T, w []uint64) *pipes.Pipes {
	t.Helper()
	p, e := pipes.Decode(w)
	if p == nil || e != api.OK {
		t.Fatalf("Decode(%v) = %v, %d", w, p, e)
	}
	if v := p.Encode(); !slices.Equal(v, w) {
		t.Fatalf("%v became %v", w, v)
	}
	return p
}

func TestEncodeOfNothing(t *testing.T) {
	wantWords(t, make([]uint64, 16))
	wantWords(t, make([]uint64, 16), makes().is(0), put(0, "abc").is(3), drop(0).ok())
}

func TestEncodeOfOne(t *testing.T) {
	for id := range most {
		for n := range size + 1 {
			s := "abcdefgh"[:n]
			l := append(made(id+1), put(id, s).is(n))
			var first [][]uint64
			for lower := range id {
				l = append(l, drop(lower).ok())
				first = append(first, gap())
			}
			wantWords(t, words(append(first, holding(s))...), l...)
		}
	}
}

func TestEncodeOfSeveral(t *testing.T) {
	wantWords(t, words(holding(""), holding("")), makes().is(0), makes().is(1))
	wantWords(t, words(holding("a"), holding(""), holding("\x00\xff")),
		makes().is(0), makes().is(1), makes().is(2), put(2, "\x00\xff").is(2), put(0, "a").is(1))
	wantWords(t, words(holding("x"), gap(), holding("12345678"), gap(), holding("")), append(made(5),
		drop(3).ok(), put(2, "123456789").is(8), drop(1).ok(), put(0, "x").is(1))...)
	wantWords(t, []uint64{1, 2, 97, 98, 0, 1, 0, 0, 0, 0, 0, 0, 0, 0, 0, 0, 0, 0, 0, 1, 1, 255}, append(made(16),
		drop(14).ok(), drop(13).ok(), drop(12).ok(), drop(11).ok(), drop(10).ok(), drop(9).ok(), drop(8).ok(), drop(7).ok(), drop(6).ok(),
		drop(5).ok(), drop(4).ok(), drop(3).ok(), drop(1).ok(), put(0, "ab").is(2), put(15, "\xff").is(1))...)
}

func TestEncodeOfAll(t *testing.T) {
	for _, s := range []string{"", "a", "abcdefgh"} {
		var all [][]uint64
		l := made(most)
		for id := range most {
			l = append(l, put(id, s).is(len(s)))
			all = append(all, holding(s))
		}
		wantWords(t, words(all...), l...)
	}
	var all [][]uint64
	l := made(most)
	for id := range most {
		s := "abcdefgh"[:id%9]
		l = append(l, put(id, s).is(len(s)))
		all = append(all, holding(s))
	}
	wantWords(t, words(all...), l...)
}

func TestEncodeOfAnyBytes(t *testing.T) {
	for b := range 256 {
		s := string([]byte{byte(b), 0, byte(255 - b)})
		wantWords(t, words(holding(s)), makes().is(0), put(0, s).is(3))
	}
}

// The eldest come first, wherever in the ring they are.
func TestEncodeAsTheRingGoesRound(t *testing.T) {
	for turned := range 3 * size {
		for n := range size + 1 {
			l := made(1)
			for range turned {
				l = append(l, put(0, "_").is(1), take(0, 1).tells("_"))
			}
			wantWords(t, words(holding("abcdefgh"[:n])), append(l, put(0, "abcdefgh"[:n]).is(n))...)
		}
	}
	play(t,
		makes().is(0), encode().words(words(holding(""))),
		put(0, "abcdefghij").is(8), encode().words(words(holding("abcdefgh"))),
		take(0, 3).tells("abc"), encode().words(words(holding("defgh"))),
		put(0, "xy").is(2), encode().words(words(holding("defghxy"))),
		take(0, 6).tells("defghx"), encode().words(words(holding("y"))),
		put(0, "1234567").is(7), encode().words(words(holding("y1234567"))),
		makes().is(1), encode().words(words(holding("y1234567"), holding(""))),
		drop(0).ok(), encode().words(words(gap(), holding(""))),
		makes().is(0), encode().words(words(holding(""), holding(""))),
	)
}

// good is words that can be read.
func good() [][]uint64 {
	full := slices.Repeat([][]uint64{holding("abcdefgh")}, 16)
	empty := slices.Repeat([][]uint64{holding("")}, 16)
	return [][]uint64{
		words(),
		words(holding("")),
		words(holding("a")),
		words(holding("\x00\x00\x01\x01")),
		words(gap(), holding("\x01\x00\x01"), gap(), holding("abcdefgh")),
		words(holding(""), holding("\x00\xff"), gap(), gap(), holding("\x01")),
		words(append(slices.Repeat([][]uint64{gap()}, 15), holding("xyz"))...),
		words(full...),
		words(empty...),
	}
}

func TestDecodeOfGoodWords(t *testing.T) {
	for _, w := range good() {
		p := wantRead(t, w)
		wantSame(t, encode(), wantBack(t, p), wantRead(t, w))
	}
	p := wantRead(t, good()[4])
	for _, s := range steps(
		length(0).is(0), drop(0).fails(api.ErrNone),
		length(1).is(3), length(2).is(0), length(3).is(8), length(4).is(0),
		put(3, "z").is(0), put(1, "abcdefgh").is(5), put(2, "a").is(0),
		take(3, 2).tells("ab"), put(3, "yz!").is(2), take(3, 9).tells("cdefghyz"),
		take(1, 9).tells("\x01\x00\x01abcde"),
		makes().is(0), makes().is(2), makes().is(4),
		take(2, 9).tells(""),
	) {
		if got := s.on(p); !got.same(s.want) {
			t.Errorf("%v answers %v, want %v", s.call, got, s.want)
		}
	}
}

func TestDecodeOfOtherThanItsLength(t *testing.T) {
	wantNone(t, nil)
	wantNone(t, []uint64{})
	for n := range 200 {
		if n != 16 {
			wantNone(t, make([]uint64, n))
		}
	}
	for _, w := range good() {
		for n := range len(w) {
			wantNone(t, w[:n]) // what lies behind its end is none of a list's
		}
		for _, more := range []uint64{0, 1, math.MaxUint64} {
			wantNone(t, append(slices.Clone(w), more))
		}
		wantNone(t, append([]uint64{0}, w...))
		wantNone(t, append([]uint64{1, 0}, w...))
		wantNone(t, append(slices.Clone(w), w...))
	}
	wantRead(t, make([]uint64, 16, 100))
	wantNone(t, make([]uint64, 1<<20))
	wantNone(t, slices.Repeat([]uint64{1}, 1<<20))
}

// wide is words that are no small numbers, among them some that would be if bits were lost, or if they were counted round.
func wide() []uint64 {
	return []uint64{1 << 16, 1 << 31, 1 << 32, 1<<32 + 1, 1<<32 + 8, 1 << 60, 1<<61 + 1, 1 << 62, 1<<62 + 1, 1<<63 - 1, 1 << 63, 1<<63 + 1, 1<<63 + 8, math.MaxUint64 - 8, math.MaxUint64 - 1, math.MaxUint64}
}

func TestDecodeOfAMarkThatIsNone(t *testing.T) {
	bad := wide()
	for v := uint64(2); v < 300; v++ {
		bad = append(bad, v)
	}
	for id := range most {
		for _, v := range bad {
			w := make([]uint64, 16)
			w[id] = v
			wantNone(t, w)
			first := slices.Repeat([][]uint64{holding("")}, id)
			wantNone(t, words(append(first, []uint64{v, 0})...))
			wantNone(t, words(append(first, []uint64{v, 1, 97})...))
		}
	}
}

func TestDecodeOfACount(t *testing.T) {
	for id := range most {
		first := slices.Repeat([][]uint64{gap()}, id)
		for n := range 40 {
			w := words(append(first, append([]uint64{1, uint64(n)}, make([]uint64, n)...))...)
			if n <= 8 {
				wantRead(t, w)
			} else {
				wantNone(t, w)
			}
		}
		for _, n := range wide() {
			for there := range 10 {
				wantNone(t, words(append(first, append([]uint64{1, n}, make([]uint64, there)...))...))
			}
		}
	}
	wantNone(t, []uint64{1, 9})
	wantNone(t, []uint64{1, 0})
	wantNone(t, []uint64{1})
}

// The last number's bytes have nothing behind them that could be read in their place.
func TestDecodeOfACountAndFewerBytes(t *testing.T) {
	for n := range 10 {
		for there := range 12 {
			w := append(make([]uint64, 15), 1, uint64(n))
			w = append(w, make([]uint64, there)...)
			roomier := append(slices.Clone(w), make([]uint64, 20)...)[:len(w)]
			if n == there && n <= 8 {
				wantRead(t, w)
				wantRead(t, roomier)
			} else {
				wantNone(t, w)
				wantNone(t, roomier)
			}
		}
	}
	wantNone(t, append(make([]uint64, 15), 1))
}

func TestDecodeOfAByteThatIsNone(t *testing.T) {
	bad := append(wide(), 256, 257, 258, 511, 512, 1<<8+97, 1<<16+97)
	for n := 1; n <= size; n++ {
		for at := range n {
			for _, first := range [][][]uint64{nil, {gap(), holding("ab")}, slices.Repeat([][]uint64{holding("x")}, 15)} {
				one := holding("abcdefgh"[:n])
				for _, v := range bad {
					one[2+at] = v
					wantNone(t, words(append(slices.Clone(first), one)...))
				}
				for _, v := range []uint64{0, 1, 2, 8, 9, 127, 128, 254, 255} {
					one[2+at] = v
					wantRead(t, words(append(slices.Clone(first), one)...))
				}
			}
		}
	}
}

// Each word of words that can be read, changed to each that may be wrong.
func TestDecodeOfAnyOneWordChanged(t *testing.T) {
	can, cannot := 0, 0
	for _, w := range good() {
		for at := range w {
			for _, v := range append(wide(), 0, 1, 2, 3, 4, 7, 8, 9, 97, 255, 256) {
				bad := slices.Clone(w)
				bad[at] = v
				if wantAsRead(t, bad) {
					can++
				} else {
					cannot++
				}
			}
		}
	}
	if can < 100 || cannot < 100 {
		t.Errorf("%d were read, %d were not", can, cannot)
	}
}

// read is Decode once more, in the words of the model: what it makes of the words, if that has these words.
func read(w []uint64) (*model, bool) {
	m := &model{}
	at := 0
	next := func() uint64 {
		if at++; at > len(w) {
			return math.MaxUint64
		}
		return w[at-1]
	}
	for id := range m.made {
		if next() != 1 {
			continue
		}
		m.made[id] = true
		for n := min(next(), 9); n > 0; n-- {
			m.in[id] += string([]byte{byte(next())})
		}
	}
	return m, slices.Equal(m.encode(), w)
}

// wantAsRead asks Decode for what read says, and answers whether that is something.
func wantAsRead(t *testing.T, w []uint64) bool {
	t.Helper()
	m, ok := read(w)
	for id := range m.in {
		ok = ok && len(m.in[id]) <= 8
	}
	if !ok {
		wantNone(t, w)
		return false
	}
	wantLike(t, 0, wantRead(t, w), m, append(looksAt(), usesUp()...)...)
	return true
}

// All words of the first two numbers, of few kinds each.
func TestDecodeOfAllSmallWords(t *testing.T) {
	kinds := []uint64{0, 1, 2, 3, 256}
	can := 0
	for n := range 7 {
		rows := 1
		for range n {
			rows *= len(kinds)
		}
		for row := range rows {
			var w []uint64
			for left := row; len(w) < n; left /= len(kinds) {
				w = append(w, kinds[left%len(kinds)])
			}
			if wantAsRead(t, append(w, make([]uint64, 14)...)) {
				can++
			}
		}
	}
	if can < 50 {
		t.Errorf("%d were read", can)
	}
}

// Words that are changed at one or two places, cut, or drawn whole.
func TestDecodeOfDrawnWords(t *testing.T) {
	can, cannot := 0, 0
	for seed := range 3000 {
		d := dice(seed)
		p := fresh(t)
		for range d.below(60) {
			d.call(3).on(p)
		}
		w := p.Encode()
		for range d.below(3) {
			w[d.below(len(w))] = pickOf(&d, append(wide(), 0, 0, 0, 1, 1, 1, 2, 3, 8, 9, 97, 255, 256))
		}
		if d.below(10) == 0 {
			w = w[:d.below(len(w))]
		}
		if d.below(20) == 0 {
			for i := range w {
				w[i] = uint64(d.below(3))
			}
		}
		if wantAsRead(t, w) {
			can++
		} else {
			cannot++
		}
	}
	if can < 500 || cannot < 500 {
		t.Errorf("%d were read, %d were not", can, cannot)
	}
}
