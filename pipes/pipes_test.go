package pipes_test

import (
	"math"
	"strings"
	"testing"

	"janus/api"
	"janus/pipes"
)

func TestExamples(t *testing.T) {
	play(t,
		makes().is(0),
		put(0, "abcdefghij").is(8),
		take(0, 3).tells("abc"),
		put(0, "xy").is(2),
		take(0, 9).tells("defghxy"),
	)
}

func TestNewHasNone(t *testing.T) {
	var l []step
	for _, id := range append(allIds(), noIds()...) {
		l = append(l, length(id).is(0), put(id, "a").is(0), take(id, 1).tells(""), drop(id).fails(api.ErrNone), length(id).is(0))
	}
	play(t, append(l, makes().is(0))...)
}

func TestNewMakesThemApart(t *testing.T) {
	p, q := fresh(t), fresh(t)
	for _, c := range []call{makes(), makes(), put(1, "abc"), take(1, 1)} {
		c.on(p)
	}
	wantSame(t, take(1, 1), q, fresh(t))
}

func TestMakeOfEachNumber(t *testing.T) {
	for n := range most + 1 {
		l := made(n)
		for _, id := range allIds()[:n] {
			l = append(l, length(id).is(0), take(id, size).tells(""), put(id, "ab").is(2))
		}
		for _, id := range allIds()[n:] {
			l = append(l, length(id).is(0), put(id, "ab").is(0), take(id, 1).tells(""), drop(id).fails(api.ErrNone))
		}
		if n < most {
			l = append(l, makes().is(n), length(n).is(0))
		} else {
			l = append(l, makes().fails(api.EAGAIN), makes().fails(api.EAGAIN))
		}
		for _, id := range allIds()[:n] {
			l = append(l, take(id, size).tells("ab"))
		}
		play(t, l...)
	}
}

func TestMakeTakesTheLowestNumber(t *testing.T) {
	for _, n := range []int{1, 2, 3, 8, 15, 16} {
		for _, id := range allIds()[:n] {
			l := append(made(n), drop(id).ok(), makes().is(id))
			if n < most {
				l = append(l, makes().is(n))
			} else {
				l = append(l, makes().fails(api.EAGAIN))
			}
			play(t, l...)
			for _, higher := range allIds()[id+1 : n] {
				for _, order := range [][2]int{{id, higher}, {higher, id}} {
					play(t, append(made(n), drop(order[0]).ok(), drop(order[1]).ok(), makes().is(id), makes().is(higher))...)
				}
			}
		}
	}
}

func TestMakeWhenAllAreGone(t *testing.T) {
	l := made(most)
	for id := most - 1; id >= 0; id-- {
		l = append(l, drop(id).ok())
	}
	play(t, joined(l, made(most), steps(makes().fails(api.EAGAIN)))...)
}

// A new pipe is empty, wherever the one that had its number had gone round to, and has all its room.
func TestMakeIsEmptyWhateverWasThere(t *testing.T) {
	for _, id := range []int{0, 1, 7, 14, 15} {
		for turned := range size {
			for n := range size + 1 {
				play(t, joined(made(most), steps(
					put(id, "turnedround"[:turned]).is(turned),
					take(id, turned).tells("turnedround"[:turned]),
					put(id, "ABCDEFGH"[:n]).is(n),
					drop(id).ok(),
					length(id).is(0),
					take(id, size).tells(""),
					makes().is(id),
					length(id).is(0),
					take(id, size).tells(""),
					put(id, "abcdefghi").is(8),
					take(id, 3).tells("abc"),
					put(id, "xyzw").is(3),
					take(id, 9).tells("defghxyz"),
				))...)
			}
		}
	}
}

// long is so many bytes, of which no eight in a row come twice before 256 are past.
func long(n int) string {
	b := make([]byte, n)
	for i := range b {
		b[i] = byte(i*7 + 3)
	}
	return string(b)
}

// Puts of all lengths, into a pipe with any count of bytes, anywhere in the ring.
func TestPutAsManyAsThereIsRoomFor(t *testing.T) {
	for turned := range size {
		for there := range size + 1 {
			for _, n := range []int{0, 1, 2, 3, 4, 5, 6, 7, 8, 9, 10, 16, 17, 1000} {
				first, s := long(turned), long(20 + n)[20:]
				fits := min(n, 8-there)
				play(t,
					makes().is(0),
					put(0, first).is(turned),
					take(0, 8).tells(first),
					put(0, "12345678"[:there]).is(there),
					put(0, s).is(fits),
					length(0).is(there+fits),
					put(0, s[fits:]).is(min(n-fits, 8-there-fits)),
					take(0, 9).tells("12345678"[:there]+s[:fits]),
					length(0).is(0),
				)
			}
		}
	}
}

func TestPutOfFarMore(t *testing.T) {
	s := long(1 << 24)
	play(t,
		makes().is(0), put(0, s).is(8), put(0, s).is(0), take(0, 1).tells(s[:1]), put(0, s[100:]).is(1),
		take(0, math.MaxInt).tells(s[1:8]+s[100:101]),
	)
}

func TestPutOfAnyBytes(t *testing.T) {
	for b := range 256 {
		s := string([]byte{byte(b)})
		play(t, makes().is(0), put(0, s).is(1), length(0).is(1), take(0, 1).tells(s), length(0).is(0))
		play(t, makes().is(0), put(0, strings.Repeat(s, 9)).is(8), put(0, s).is(0), take(0, 9).tells(strings.Repeat(s, 8)))
	}
	for _, s := range []string{"\x00", "\x00\x00\x00", "\x00a\x00", "\xff\x00\xff", "\x80\xc3", "é", "世界!", "\xf0\x9f\x98", "\n\r\t "} {
		play(t, makes().is(0), put(0, s).is(len(s)), length(0).is(len(s)), take(0, len(s)).tells(s))
		for n := range len(s) + 1 { // wherever a sign is cut
			play(t, makes().is(0), put(0, s).is(len(s)), take(0, n).tells(s[:n]), take(0, 8).tells(s[n:]))
		}
	}
	play(t, makes().is(0), put(0, "世界世界").is(8), take(0, 8).tells("世界世界"[:8]))
}

func TestPutOfNothing(t *testing.T) {
	for there := range size + 1 {
		play(t, makes().is(0), put(0, "12345678"[:there]).is(there), put(0, "").is(0), length(0).is(there), take(0, 8).tells("12345678"[:there]))
	}
}

// Takes of any count, of a pipe with any count of bytes, anywhere in the ring; what is left stays in its order.
func TestTakeAtMostAsManyAsThereAre(t *testing.T) {
	for turned := range size {
		for there := range size + 1 {
			for _, n := range []int{0, 1, 2, 3, 4, 5, 6, 7, 8, 9, 10, 16, 255, 256, 257, 1 << 31, 1 << 32, 1<<32 + 1, math.MaxInt - 1, math.MaxInt} {
				first, s := long(turned), "abcdefgh"[:there]
				got := min(n, there)
				play(t,
					makes().is(0),
					put(0, first).is(turned),
					take(0, turned).tells(first),
					put(0, s).is(there),
					take(0, n).tells(s[:got]),
					length(0).is(there-got),
					put(0, "XYZ").is(min(3, 8-there+got)),
					take(0, 9).tells(s[got:]+"XYZ"[:min(3, 8-there+got)]),
					take(0, n).tells(""),
				)
			}
		}
	}
}

func TestTakeOfCountsBelowOne(t *testing.T) {
	for _, n := range []int{0, -1, -2, -7, -8, -9, -255, -256, -1 << 31, -1 << 32, -1<<32 + 1, 1 - 1<<62, math.MinInt, math.MinInt + 1} {
		for there := range size + 1 {
			play(t, makes().is(0), put(0, "abcdefgh"[:there]).is(there), take(0, n).tells(""), length(0).is(there), take(0, 8).tells("abcdefgh"[:there]))
		}
	}
}

func TestLenOfEach(t *testing.T) {
	l := made(most)
	for id := range most {
		l = append(l, put(id, "abcdefgh"[:id%9]).is(id%9))
	}
	for id := range most {
		l = append(l, length(id).is(id%9))
	}
	for id := range most {
		l = append(l, take(id, 3).tells("abcdefgh"[:min(3, id%9)]), length(id).is(max(0, id%9-3)))
	}
	play(t, l...)
}

// What is done to one is done to none of the others.
func TestPipesAreApart(t *testing.T) {
	for _, id := range allIds() {
		l := made(most)
		for _, other := range others(most, id) {
			l = append(l, put(other, "own"+string(rune('a'+other))).is(4))
		}
		l = append(l, put(id, "abcdefghi").is(8), take(id, 2).tells("ab"), put(id, "xyz").is(2), take(id, 9).tells("cdefghxy"), drop(id).ok())
		for _, other := range others(most, id) {
			l = append(l, length(other).is(4), put(other, "12345").is(4), take(other, 9).tells("own"+string(rune('a'+other))+"1234"))
		}
		play(t, l...)
	}
}

func TestCallsOnWhatIsNone(t *testing.T) {
	for _, n := range []int{0, 1, 5, 15, 16} {
		none := append(noIds(), allIds()[n:]...)
		l := made(n)
		for id := range n {
			l = append(l, put(id, "keep").is(4))
		}
		for _, id := range none {
			l = append(l, put(id, "a").is(0), put(id, "").is(0), take(id, 1).tells(""), take(id, -1).tells(""), length(id).is(0), drop(id).fails(api.ErrNone))
		}
		for id := range n {
			l = append(l, take(id, 8).tells("keep"))
		}
		play(t, l...)
	}
}

func TestCallsOnWhatIsGone(t *testing.T) {
	for _, id := range allIds() {
		for n := range size + 1 {
			play(t, joined(made(most), steps(
				put(id, "abcdefgh"[:n]).is(n),
				drop(id).ok(),
				length(id).is(0),
				put(id, "xy").is(0),
				take(id, 8).tells(""),
				drop(id).fails(api.ErrNone),
				drop(id).fails(api.ErrNone),
				makes().is(id),
				take(id, 8).tells(""),
				drop(id).ok(),
			))...)
		}
	}
}

func TestDropOfEachAmongOthers(t *testing.T) {
	for _, id := range allIds() {
		l := append(made(most), drop(id).ok())
		for _, other := range others(most, id) {
			l = append(l, put(other, "a").is(1), drop(other).ok(), put(other, "a").is(0))
		}
		play(t, append(l, drop(id).fails(api.ErrNone), makes().is(0))...)
	}
}

// However often the ring has gone round, bytes come out in their order, each once.
func TestOrderAsTheRingGoesRound(t *testing.T) {
	s := long(5000)
	for puts := 1; puts <= size+1; puts++ {
		for takes := 1; takes <= size+1; takes++ {
			p := fresh(t)
			p.Make()
			in, out := 0, ""
			for in < len(s) {
				n := p.Put(0, s[in:min(in+puts, len(s))])
				if want := min(puts, len(s)-in, 8-(in-len(out))); n != want {
					t.Fatalf("Put of %d into %d answers %d", puts, in-len(out), n)
				}
				in += n
				out += p.Take(0, takes)
				if out != s[:len(out)] || p.Len(0) != in-len(out) {
					t.Fatalf("puts of %d, takes of %d: behind %d came %q, Len %d", puts, takes, in, out[max(0, len(out)-9):], p.Len(0))
				}
			}
			if out += p.Take(0, 8); out != s || p.Take(0, 8) != "" {
				t.Errorf("puts of %d, takes of %d: %d bytes came out of %d", puts, takes, len(out), len(s))
			}
		}
	}
}

func TestNil(t *testing.T) {
	var p *pipes.Pipes
	for range 2 {
		for c, want := range map[call]answer{makes(): {e: api.EAGAIN}, encode(): {}} {
			if got := c.on(p); !got.same(want) {
				t.Errorf("%v on nil answers %v, want %v", c, got, want)
			}
		}
		for _, id := range append(allIds(), noIds()...) {
			for c, want := range map[call]answer{put(id, "a"): {}, put(id, ""): {}, take(id, 1): {}, take(id, -1): {}, length(id): {}, drop(id): {e: api.ErrNone}} {
				if got := c.on(p); !got.same(want) {
					t.Errorf("%v on nil answers %v, want %v", c, got, want)
				}
			}
		}
	}
}
