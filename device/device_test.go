package device

import (
	"math"
	"strings"
	"testing"

	"janus/api"
)

// allBytes is every byte once: none of them is special to a console.
func allBytes() string {
	var b strings.Builder
	for i := range 256 {
		b.WriteByte(byte(i))
	}
	return b.String()
}

func console(t *testing.T, input string) *Console {
	t.Helper()
	c := New(input)
	if c == nil {
		t.Fatalf("New(%q) = nil", input)
	}
	return c
}

func wantGet(t *testing.T, c *Console, n int, want string) {
	t.Helper()
	if got := c.Get(n); got != want {
		t.Errorf("Get(%d) = %q, want %q", n, got, want)
	}
}

func wantLeft(t *testing.T, c *Console, want int, after string) {
	t.Helper()
	if got := c.Left(); got != want {
		t.Errorf("after %s: Left() = %d, want %d", after, got, want)
	}
}

func wantOut(t *testing.T, c *Console, want, after string) {
	t.Helper()
	if got := c.Out(); got != want {
		t.Errorf("after %s: Out() = %q, want %q", after, got, want)
	}
}

// timerAt is a timer on which n ticks are left.
func timerAt(t *testing.T, n int) *Timer {
	t.Helper()
	x := NewTimer()
	if x == nil {
		t.Fatal("NewTimer() = nil")
	}
	set(t, x, n)
	return x
}

func set(t *testing.T, x *Timer, n int) {
	t.Helper()
	if e := x.Set(n); e != api.OK {
		t.Fatalf("Set(%d) = %d", n, e)
	}
	wantTicks(t, x, n, "Set")
}

func wantTick(t *testing.T, x *Timer, want bool) {
	t.Helper()
	left := x.Left()
	if got := x.Tick(); got != want {
		t.Errorf("Tick() with %d left = %v, want %v", left, got, want)
	}
}

func wantTicks(t *testing.T, x *Timer, want int, after string) {
	t.Helper()
	if got := x.Left(); got != want {
		t.Errorf("after %s: Left() = %d, want %d", after, got, want)
	}
}

// firings are at which of so many ticks the timer fired, the first being 1.
func firings(x *Timer, ticks int) []int {
	var at []int
	for i := range ticks {
		if x.Tick() {
			at = append(at, i+1)
		}
	}
	return at
}

// badTicks are what a timer can't be set to.
var badTicks = []int{math.MinInt, math.MinInt32, -201, -200, -2, -1, 201, 202, 256, 400, math.MaxInt32, math.MaxInt}

// 4.1

func TestGetGivesTheInputInOrder(t *testing.T) {
	c := console(t, "abcdef")
	wantLeft(t, c, 6, "New")
	wantGet(t, c, 1, "a")
	wantLeft(t, c, 5, "Get(1)")
	wantGet(t, c, 3, "bcd")
	wantLeft(t, c, 2, "Get(3)")
	wantGet(t, c, 1, "e")
	wantGet(t, c, 1, "f")
	wantLeft(t, c, 0, "all Gets")
}

func TestGetGivesAsManyAsAreLeft(t *testing.T) {
	for _, over := range []int{0, 1, 2, 5, 100, 1 << 20, math.MaxInt32, math.MaxInt - 3} {
		c := console(t, "xabc")
		wantGet(t, c, 1, "x")
		wantGet(t, c, 3+over, "abc")
		wantLeft(t, c, 0, "Get of all")
		for _, n := range []int{0, 1, 3, 3 + over, -1} {
			wantGet(t, c, n, "")
			wantLeft(t, c, 0, "Get of none")
		}
	}
}

func TestGetOfOneLessThanLeft(t *testing.T) {
	c := console(t, "abc")
	wantGet(t, c, 2, "ab")
	wantLeft(t, c, 1, "Get(2)")
	wantGet(t, c, 2, "c")
	wantLeft(t, c, 0, "Get(2)")
}

func TestGetOfNoneTakesNothing(t *testing.T) {
	c := console(t, "abc")
	for _, n := range []int{0, -1, -2, -3, -4, math.MinInt32, math.MinInt} {
		wantGet(t, c, n, "")
		wantLeft(t, c, 3, "Get of none")
	}
	wantGet(t, c, 3, "abc")
}

func TestEmptyInput(t *testing.T) {
	c := console(t, "")
	wantLeft(t, c, 0, "New")
	wantOut(t, c, "", "New")
	for _, n := range []int{math.MinInt, -1, 0, 1, 2, math.MaxInt} {
		wantGet(t, c, n, "")
		wantLeft(t, c, 0, "Get")
	}
	c.Put("a")
	wantOut(t, c, "a", "Put")
	wantLeft(t, c, 0, "Put")
}

func TestInputIsBytesNotRunes(t *testing.T) {
	c := console(t, "é\x00\xff\n")
	wantLeft(t, c, 5, "New")
	wantGet(t, c, 1, "\xc3")
	wantGet(t, c, 2, "\xa9\x00")
	wantGet(t, c, 9, "\xff\n")

	all := allBytes()
	c = console(t, all)
	for i := range 256 {
		wantGet(t, c, 1, all[i:i+1])
	}
}

func TestPutWritesBehindWhatWas(t *testing.T) {
	c := console(t, "")
	wantOut(t, c, "", "New")
	c.Put("ab")
	wantOut(t, c, "ab", "one Put")
	c.Put("c")
	wantOut(t, c, "abc", "two Puts")
	c.Put("ab")
	wantOut(t, c, "abcab", "a Put of what was written already")
	c.Put(allBytes())
	wantOut(t, c, "abcab"+allBytes(), "a Put of every byte")
}

func TestPutOfNothing(t *testing.T) {
	c := console(t, "")
	c.Put("")
	wantOut(t, c, "", "a Put of nothing")
	c.Put("a")
	c.Put("")
	wantOut(t, c, "a", "a Put of nothing behind a")
	c.Put("b")
	wantOut(t, c, "ab", "a Put behind nothing")
}

func TestOutTakesNothingAway(t *testing.T) {
	c := console(t, "")
	c.Put("abc")
	for range 3 {
		wantOut(t, c, "abc", "Out")
	}
}

func TestOutStaysAsItWasAnswered(t *testing.T) {
	c := console(t, "")
	var were []string
	want := ""
	for i := range 100 {
		c.Put(string(rune('a' + i%26)))
		want += string(rune('a' + i%26))
		were = append(were, c.Out())
	}
	for i, out := range were {
		if out != want[:i+1] {
			t.Errorf("Out() after %d Puts became %q", i+1, out)
		}
	}
}

func TestReadAndWrittenStayApart(t *testing.T) {
	c := console(t, "input")
	c.Put("out")
	wantLeft(t, c, 5, "Put")
	wantGet(t, c, 2, "in")
	wantOut(t, c, "out", "Get")
	c.Put("put")
	wantLeft(t, c, 3, "Put")
	wantGet(t, c, 9, "put")
	wantOut(t, c, "output", "Get of all")
	c.Put("!")
	wantGet(t, c, 1, "")
	wantOut(t, c, "output!", "Put with no input left")
}

func TestConsolesStayApart(t *testing.T) {
	a, b := console(t, "same"), console(t, "same")
	a.Put("a")
	wantGet(t, a, 3, "sam")
	wantLeft(t, b, 4, "Get of the other")
	wantOut(t, b, "", "Put on the other")
	b.Put("b")
	wantOut(t, a, "a", "Put on the other")
	wantGet(t, b, 4, "same")
	wantGet(t, a, 4, "e")
}

func TestNilConsole(t *testing.T) {
	var c *Console
	for _, n := range []int{math.MinInt, -1, 0, 1, 2, math.MaxInt} {
		wantGet(t, c, n, "")
	}
	wantLeft(t, c, 0, "Get")
	c.Put("")
	c.Put("a")
	wantOut(t, c, "", "Put")
	wantLeft(t, c, 0, "Put")
}

func TestZeroConsole(t *testing.T) {
	var c Console
	wantGet(t, &c, 1, "")
	wantLeft(t, &c, 0, "Get")
	c.Put("a")
	wantOut(t, &c, "a", "Put")
}

func TestConsoleAgainstAModel(t *testing.T) {
	input := strings.Repeat(allBytes(), 8)
	c, read, out := console(t, input), 0, ""
	draw := uint32(4)
	for i := range 5000 {
		draw = draw*1664525 + 1013904223
		n := int(draw>>24)%12 - 3
		switch draw >> 20 & 3 {
		case 0:
			end := min(read+max(n, 0), len(input))
			wantGet(t, c, n, input[read:end])
			read = end
		case 1:
			piece := input[i%len(input):][:min(max(n, 0), len(input)-i%len(input))]
			c.Put(piece)
			out += piece
		case 2:
			wantOut(t, c, out, "a long run")
		}
		wantLeft(t, c, len(input)-read, "a long run")
	}
	wantGet(t, c, math.MaxInt, input[read:])
	wantOut(t, c, out, "a long run")
}

// 4.2

func TestNewTimerDoesNotRun(t *testing.T) {
	x := NewTimer()
	if x == nil {
		t.Fatal("NewTimer() = nil")
	}
	wantTicks(t, x, 0, "NewTimer")
	for range 3 {
		wantTick(t, x, false)
		wantTicks(t, x, 0, "Tick of a timer that was never set")
	}
}

func TestSetAtItsEdges(t *testing.T) {
	for _, n := range []int{0, 1, 2, 31, 32, 127, 128, 199, 200} {
		timerAt(t, n)
	}
	if api.MaxFuel != 200 {
		t.Errorf("MaxFuel = %d", api.MaxFuel)
	}
}

func TestSetRefuses(t *testing.T) {
	for _, n := range badTicks {
		if e := NewTimer().Set(n); e != api.ErrArg {
			t.Errorf("Set(%d) = %d, want ErrArg", n, e)
		}
	}
}

func TestRefusedSetChangesNothing(t *testing.T) {
	for _, left := range []int{0, 1, 2, 200} {
		for _, n := range badTicks {
			x := timerAt(t, left)
			if e := x.Set(n); e != api.ErrArg {
				t.Errorf("Set(%d) with %d left = %d, want ErrArg", n, left, e)
			}
			wantTicks(t, x, left, "a refused Set")
			wantTick(t, x, left == 1)
			wantTicks(t, x, max(left-1, 0), "a refused Set and a Tick")
		}
	}
}

func TestSetToNoneStopsTheTimer(t *testing.T) {
	for _, before := range []int{0, 1, 5, 200} {
		x := timerAt(t, before)
		set(t, x, 0)
		for range 3 {
			wantTick(t, x, false)
			wantTicks(t, x, 0, "Tick of a timer that was set to 0")
		}
	}
}

func TestTickTakesOneAway(t *testing.T) {
	x := timerAt(t, 200)
	for left := 199; left >= 0; left-- {
		wantTick(t, x, left == 0)
		wantTicks(t, x, left, "Tick")
	}
}

func TestTickOfATimerThatRanOut(t *testing.T) {
	x := timerAt(t, 1)
	wantTick(t, x, true)
	for range 500 {
		wantTick(t, x, false)
		wantTicks(t, x, 0, "Tick of a timer that ran out")
	}
}

func TestSetWhileItRuns(t *testing.T) {
	x := timerAt(t, 3)
	wantTick(t, x, false)
	set(t, x, 5)
	if at := firings(x, 20); len(at) != 1 || at[0] != 5 {
		t.Errorf("set to 5 with 2 left: it fired at %v", at)
	}
	x = timerAt(t, 200)
	wantTick(t, x, false)
	set(t, x, 1)
	if at := firings(x, 300); len(at) != 1 || at[0] != 1 {
		t.Errorf("set to 1 with 199 left: it fired at %v", at)
	}
	x = timerAt(t, 2)
	set(t, x, 2)
	if at := firings(x, 20); len(at) != 1 || at[0] != 2 {
		t.Errorf("set to 2 with 2 left: it fired at %v", at)
	}
}

func TestLeftTakesNothingAway(t *testing.T) {
	x := timerAt(t, 2)
	for range 5 {
		wantTicks(t, x, 2, "Left")
	}
}

func TestTimersStayApart(t *testing.T) {
	a, b := timerAt(t, 2), timerAt(t, 3)
	wantTick(t, a, false)
	wantTick(t, a, true)
	wantTicks(t, b, 3, "Ticks of the other")
	set(t, a, 7)
	wantTick(t, b, false)
	wantTicks(t, a, 7, "Tick of the other")
	wantTicks(t, b, 2, "Set of the other")
}

func TestNilTimer(t *testing.T) {
	var x *Timer
	for _, n := range append([]int{0, 1, 2, 199, 200}, badTicks...) {
		if e := x.Set(n); e != api.ErrArg {
			t.Errorf("Set(%d) on nil = %d, want ErrArg", n, e)
		}
		wantTick(t, x, false)
		wantTicks(t, x, 0, "Set and Tick on nil")
	}
}

func TestZeroTimer(t *testing.T) {
	var x Timer
	wantTick(t, &x, false)
	wantTicks(t, &x, 0, "Tick")
	set(t, &x, 1)
	wantTick(t, &x, true)
}

// 4.3

func TestTimerThatIsSetFiresOnce(t *testing.T) {
	for n := 1; n <= 200; n++ {
		x := timerAt(t, n)
		if at := firings(x, 3*200); len(at) != 1 || at[0] != n {
			t.Errorf("set to %d: it fired at %v", n, at)
		}
		// Set again once it has run out, it is as good as new.
		set(t, x, 201-n)
		if at := firings(x, 3*200); len(at) != 1 || at[0] != 201-n {
			t.Errorf("set again to %d: it fired at %v", 201-n, at)
		}
	}
}

func TestTimerThatIsNotSetNeverFires(t *testing.T) {
	x := NewTimer()
	if at := firings(x, 600); len(at) != 0 {
		t.Errorf("never set: it fired at %v", at)
	}
	for _, n := range badTicks {
		x.Set(n)
		if at := firings(x, 600); len(at) != 0 {
			t.Errorf("Set(%d), refused: it fired at %v", n, at)
		}
	}
}

func TestRefusedSetLetsATimerFireOnce(t *testing.T) {
	for _, n := range badTicks {
		x := timerAt(t, 4)
		wantTick(t, x, false)
		x.Set(n)
		if at := firings(x, 600); len(at) != 1 || at[0] != 3 {
			t.Errorf("Set(%d), refused with 3 left: it fired at %v", n, at)
		}
	}
}

func TestTimerAgainstAModel(t *testing.T) {
	x, left := NewTimer(), 0
	draw := uint32(42)
	for range 20000 {
		draw = draw*1664525 + 1013904223
		n := int(draw>>16)%260 - 30
		if draw>>28 == 0 {
			good := n >= 0 && n <= 200
			if e := x.Set(n); (e == api.OK) != good || !good && e != api.ErrArg {
				t.Fatalf("Set(%d) = %d", n, e)
			}
			if good {
				left = n
			}
		} else {
			wantTick(t, x, left == 1)
			left = max(left-1, 0)
		}
		wantTicks(t, x, left, "a long run")
	}
}

// The chapter's examples.

func TestExamples(t *testing.T) {
	c := console(t, "abc")
	wantGet(t, c, 2, "ab")
	wantGet(t, c, 2, "c")

	x := timerAt(t, 2)
	wantTick(t, x, false)
	wantTick(t, x, true)
	wantTick(t, x, false)
}
