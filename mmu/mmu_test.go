package mmu

import (
	"math"
	"slices"
	"testing"

	"janus/api"
)

func badPages() []int {
	return []int{math.MinInt, -4, -1, 4, 5, 128, math.MaxInt}
}

func badAddrs() []uint64 {
	return []uint64{128, 129, 159, 1 << 31, 1 << 32, 1<<32 + 33, 1<<63 - 1, 1 << 63, 1<<63 + 33, math.MaxUint64 - 31, math.MaxUint64}
}

func rw(frame int) api.Page { return api.Page{Frame: frame, Writable: true} }

func ro(frame int) api.Page { return api.Page{Frame: frame} }

// entry is what At answers.
type entry struct {
	page   api.Page
	mapped bool
}

// image is all that a table's calls show of it, but Walk.
func image(x *Table) [api.MaxPages]entry {
	var all [api.MaxPages]entry
	for page := range all {
		all[page].page, all[page].mapped = x.At(page)
	}
	return all
}

func wantImage(t *testing.T, x *Table, want [api.MaxPages]entry, after string) {
	t.Helper()
	if got := image(x); got != want {
		t.Errorf("after %s: the table is %v, want %v", after, got, want)
	}
	var frames []int
	for _, e := range want {
		if e.mapped {
			frames = append(frames, e.page.Frame)
		}
	}
	if got := x.Frames(); !slices.Equal(got, frames) {
		t.Errorf("after %s: Frames() = %v, want %v", after, got, frames)
	}
}

func table(t *testing.T, pages map[int]api.Page) *Table {
	t.Helper()
	x := New()
	for page, p := range pages {
		if e := x.Map(page, p); e != api.OK {
			t.Fatalf("Map(%d, %v) = %d", page, p, e)
		}
	}
	return x
}

func wantWalk(t *testing.T, x *Table, addr uint64, write bool, frame, word int, e api.Errno) {
	t.Helper()
	f, w, g := x.Walk(addr, write)
	if f != frame || w != word || g != e {
		t.Errorf("Walk(%d, %v) = %d, %d, %d; want %d, %d, %d", addr, write, f, w, g, frame, word, e)
	}
}

func wantTlbWalk(t *testing.T, b *Tlb, x *Table, addr uint64, write bool, frame, word int, e api.Errno, hit bool) {
	t.Helper()
	f, w, g, h := b.Walk(x, addr, write)
	if f != frame || w != word || g != e || h != hit {
		t.Errorf("Tlb.Walk(%d, %v) = %d, %d, %d, %v; want %d, %d, %d, %v", addr, write, f, w, g, h, frame, word, e, hit)
	}
}

func wantKept(t *testing.T, b *Tlb, after string, pages ...int) {
	t.Helper()
	if got := b.Pages(); !slices.Equal(got, pages) {
		t.Errorf("after %s: Pages() = %v, want %v", after, got, pages)
	}
}

// 2.1

func TestNewHasNoPages(t *testing.T) {
	x := New()
	if x == nil {
		t.Fatal("New() = nil")
	}
	wantImage(t, x, [api.MaxPages]entry{}, "New")
	for _, write := range []bool{false, true} {
		for addr := range uint64(api.MaxWords) {
			wantWalk(t, x, addr, write, 0, 0, api.ErrFault)
		}
	}
	for page := range api.MaxPages {
		if e := x.Unmap(page); e != api.ErrFault {
			t.Errorf("Unmap(%d) = %d", page, e)
		}
	}
}

func TestMapOfEachPage(t *testing.T) {
	for page := range 4 {
		for _, p := range []api.Page{ro(0), rw(0), ro(1), rw(7), rw(api.MaxFrames), ro(math.MaxInt)} {
			x := New()
			if e := x.Map(page, p); e != api.OK {
				t.Errorf("Map(%d, %v) = %d", page, p, e)
			}
			var want [api.MaxPages]entry
			want[page] = entry{p, true}
			wantImage(t, x, want, "Map")
		}
	}
}

func TestMapAnewIsTheNewPage(t *testing.T) {
	x := table(t, map[int]api.Page{0: rw(4), 3: ro(5)})
	want := image(x)
	for _, p := range []api.Page{ro(4), rw(4), rw(9), ro(0)} {
		for _, page := range []int{0, 3} {
			if e := x.Map(page, p); e != api.OK {
				t.Errorf("Map(%d, %v) = %d", page, p, e)
			}
			want[page] = entry{p, true}
			wantImage(t, x, want, "Map anew")
		}
	}
}

func TestRefusedMapChangesNothing(t *testing.T) {
	x := table(t, map[int]api.Page{0: rw(4), 1: ro(5)})
	want := image(x)
	for _, page := range badPages() {
		for _, p := range []api.Page{rw(0), ro(7), rw(-1), ro(math.MinInt)} {
			if e := x.Map(page, p); e != api.ErrArg {
				t.Errorf("Map(%d, %v) = %d", page, p, e)
			}
		}
		if p, mapped := x.At(page); p != (api.Page{}) || mapped {
			t.Errorf("At(%d) = %v, %v", page, p, mapped)
		}
	}
	for page := range 4 {
		for _, p := range []api.Page{rw(-1), ro(-1), rw(math.MinInt), ro(-7)} {
			if e := x.Map(page, p); e != api.ErrArg {
				t.Errorf("Map(%d, %v) = %d", page, p, e)
			}
		}
	}
	wantImage(t, x, want, "refused Maps")
}

func TestUnmapOfOnePage(t *testing.T) {
	for page := range 4 {
		x := table(t, map[int]api.Page{0: rw(4), 1: ro(5), 2: rw(0), 3: ro(5)})
		want := image(x)
		want[page] = entry{}
		if e := x.Unmap(page); e != api.OK {
			t.Errorf("Unmap(%d) = %d", page, e)
		}
		wantImage(t, x, want, "Unmap")
		if e := x.Unmap(page); e != api.ErrFault {
			t.Errorf("Unmap(%d) again = %d", page, e)
		}
		wantImage(t, x, want, "Unmap again")
		wantWalk(t, x, uint64(page*32), false, 0, 0, api.ErrFault)
		if e := x.Map(page, rw(8)); e != api.OK {
			t.Errorf("Map(%d) behind Unmap = %d", page, e)
		}
		want[page] = entry{rw(8), true}
		wantImage(t, x, want, "Unmap and Map")
	}
}

func TestRefusedUnmapChangesNothing(t *testing.T) {
	x := table(t, map[int]api.Page{0: rw(4), 3: ro(5)})
	want := image(x)
	for _, page := range badPages() {
		if e := x.Unmap(page); e != api.ErrArg {
			t.Errorf("Unmap(%d) = %d", page, e)
		}
	}
	for _, page := range []int{1, 2} {
		if e := x.Unmap(page); e != api.ErrFault {
			t.Errorf("Unmap(%d) = %d", page, e)
		}
	}
	wantImage(t, x, want, "refused Unmaps")
}

func TestWalkOfEachAddress(t *testing.T) {
	x := table(t, map[int]api.Page{0: rw(0), 1: ro(math.MaxInt), 3: rw(7)})
	frames := map[int]int{0: 0, 1: math.MaxInt, 3: 7}
	for addr := range 128 {
		page, word := addr/32, addr%32
		frame, mapped := frames[page]
		if !mapped {
			wantWalk(t, x, uint64(addr), false, 0, 0, api.ErrFault)
			wantWalk(t, x, uint64(addr), true, 0, 0, api.ErrFault)
			continue
		}
		wantWalk(t, x, uint64(addr), false, frame, word, api.OK)
		if page == 1 {
			wantWalk(t, x, uint64(addr), true, 0, 0, api.ErrProt)
		} else {
			wantWalk(t, x, uint64(addr), true, frame, word, api.OK)
		}
	}
}

func TestWalkAtTheEdges(t *testing.T) {
	x := table(t, map[int]api.Page{0: rw(10), 1: rw(11), 2: rw(12), 3: rw(13)})
	for _, c := range []struct {
		addr        uint64
		frame, word int
	}{{0, 10, 0}, {31, 10, 31}, {32, 11, 0}, {63, 11, 31}, {64, 12, 0}, {95, 12, 31}, {96, 13, 0}, {127, 13, 31}} {
		wantWalk(t, x, c.addr, false, c.frame, c.word, api.OK)
		wantWalk(t, x, c.addr, true, c.frame, c.word, api.OK)
	}
}

func TestWalkPastTheEnd(t *testing.T) {
	full := table(t, map[int]api.Page{0: rw(10), 1: rw(11), 2: rw(12), 3: rw(13)})
	readOnly := table(t, map[int]api.Page{0: ro(10), 1: ro(11), 2: ro(12), 3: ro(13)})
	for _, x := range []*Table{full, readOnly, New()} {
		want := image(x)
		for _, addr := range badAddrs() {
			wantWalk(t, x, addr, false, 0, 0, api.ErrFault)
			wantWalk(t, x, addr, true, 0, 0, api.ErrFault) // named ahead of ErrProt
		}
		wantImage(t, x, want, "walks past the end")
	}
}

func TestFramesAreByRisingPages(t *testing.T) {
	for range 20 { // a map's order would differ from run to run
		x := New()
		for _, page := range []int{3, 1, 2, 0} {
			x.Map(page, rw(9-page))
		}
		if l := x.Frames(); !slices.Equal(l, []int{9, 8, 7, 6}) {
			t.Fatalf("Frames() = %v", l)
		}
	}
}

func TestFramesNamesAFrameForEachPage(t *testing.T) {
	x := table(t, map[int]api.Page{0: rw(5), 2: ro(5), 3: rw(0)})
	if l := x.Frames(); !slices.Equal(l, []int{5, 5, 0}) {
		t.Errorf("Frames() = %v", l)
	}
}

func TestFramesIsNewMemory(t *testing.T) {
	x := table(t, map[int]api.Page{0: rw(1), 1: rw(2), 2: rw(3)})
	first, second := x.Frames(), x.Frames()
	first = append(first[:1], 99, 99, 99, 99)
	clear(first)
	if !slices.Equal(second, []int{1, 2, 3}) || !slices.Equal(x.Frames(), []int{1, 2, 3}) {
		t.Errorf("another answer became %v, the table's %v", second, x.Frames())
	}
	x.Map(0, rw(7))
	x.Unmap(1)
	if !slices.Equal(second, []int{1, 2, 3}) {
		t.Errorf("an answer became %v", second)
	}
}

func TestTablesAreApart(t *testing.T) {
	x, other := table(t, map[int]api.Page{0: rw(1)}), New()
	want := image(x)
	other.Map(0, ro(5))
	other.Map(1, ro(6))
	wantImage(t, x, want, "Map on another table")
	other.Unmap(0)
	wantImage(t, x, want, "Unmap on another table")
}

func TestNoTable(t *testing.T) {
	var x *Table
	for _, page := range append(badPages(), 0, 1, 2, 3) {
		if e := x.Map(page, rw(1)); e != api.ErrArg {
			t.Errorf("Map(%d) = %d", page, e)
		}
		if e := x.Unmap(page); e != api.ErrArg {
			t.Errorf("Unmap(%d) = %d", page, e)
		}
		if p, mapped := x.At(page); p != (api.Page{}) || mapped {
			t.Errorf("At(%d) = %v, %v", page, p, mapped)
		}
	}
	for _, addr := range append(badAddrs(), 0, 31, 32, 127) {
		wantWalk(t, x, addr, false, 0, 0, api.ErrFault)
		wantWalk(t, x, addr, true, 0, 0, api.ErrFault)
	}
	if l := x.Frames(); len(l) != 0 {
		t.Errorf("Frames() = %v", l)
	}
}

func TestTableThatNewDidNotMake(t *testing.T) {
	x := new(Table)
	wantImage(t, x, [api.MaxPages]entry{}, "new")
	wantWalk(t, x, 0, false, 0, 0, api.ErrFault)
	if e := x.Unmap(0); e != api.ErrFault {
		t.Errorf("Unmap(0) = %d", e)
	}
	if e := x.Map(0, rw(3)); e != api.OK {
		t.Errorf("Map(0) = %d", e)
	}
	wantWalk(t, x, 2, true, 3, 2, api.OK)
}

// 2.2

func fourPages(t *testing.T) *Table {
	t.Helper()
	return table(t, map[int]api.Page{0: rw(10), 1: rw(11), 2: rw(12), 3: ro(13)})
}

func TestTlbKeepsNothingAtFirst(t *testing.T) {
	b := NewTlb()
	if b == nil {
		t.Fatal("NewTlb() = nil")
	}
	wantKept(t, b, "NewTlb")
	for page := range 4 {
		wantTlbWalk(t, NewTlb(), fourPages(t), uint64(page*32), false, 10+page, 0, api.OK, false)
	}
}

func TestTlbMissThenHit(t *testing.T) {
	for _, write := range []bool{false, true} {
		b, x := NewTlb(), fourPages(t)
		wantTlbWalk(t, b, x, 0, write, 10, 0, api.OK, false)
		wantKept(t, b, "a miss", 0)
		wantTlbWalk(t, b, x, 31, write, 10, 31, api.OK, true)
		wantTlbWalk(t, b, x, 31, !write, 10, 31, api.OK, true)
		wantKept(t, b, "hits", 0)
		wantTlbWalk(t, b, x, 32, write, 11, 0, api.OK, false)
		wantKept(t, b, "another miss", 0, 1)
		wantTlbWalk(t, b, x, 0, write, 10, 0, api.OK, true)
		wantTlbWalk(t, b, x, 63, write, 11, 31, api.OK, true)
		wantKept(t, b, "hits of both", 0, 1)
	}
}

func TestTlbLetsTheEldestGo(t *testing.T) {
	b, x := NewTlb(), fourPages(t)
	for i, page := range []int{3, 0, 2, 1, 3, 0} {
		wantTlbWalk(t, b, x, uint64(page*32+5), false, 10+page, 5, api.OK, false)
		if n := min(i+1, 2); len(b.Pages()) != n {
			t.Errorf("%d pages are kept, want %d", len(b.Pages()), n)
		}
	}
	wantKept(t, b, "six misses", 3, 0)
}

func TestTlbHitMakesNoPageYounger(t *testing.T) {
	b, x := NewTlb(), fourPages(t)
	b.Walk(x, 0, false)
	b.Walk(x, 32, false)
	for range 3 {
		wantTlbWalk(t, b, x, 1, true, 10, 1, api.OK, true)
	}
	wantKept(t, b, "hits of the eldest", 0, 1)
	b.Walk(x, 64, false)
	wantKept(t, b, "a third page", 1, 2)
	wantTlbWalk(t, b, x, 0, false, 10, 0, api.OK, false)
	wantKept(t, b, "the first page again", 2, 0)
}

func TestTlbRefusalKeepsThePage(t *testing.T) {
	b, x := NewTlb(), fourPages(t)
	wantTlbWalk(t, b, x, 97, true, 0, 0, api.ErrProt, false)
	wantKept(t, b, "a refused write that missed", 3)
	wantTlbWalk(t, b, x, 97, true, 0, 0, api.ErrProt, true)
	wantTlbWalk(t, b, x, 97, false, 13, 1, api.OK, true)
	wantKept(t, b, "a refused write that hit", 3)
	b.Walk(x, 0, false)
	b.Walk(x, 32, false)
	wantKept(t, b, "two more pages", 0, 1)
	wantTlbWalk(t, b, x, 127, true, 0, 0, api.ErrProt, false)
	wantKept(t, b, "a refused write that let the eldest go", 1, 3)
}

func TestTlbFaultKeepsNothing(t *testing.T) {
	for kept := range 3 {
		b, x := NewTlb(), fourPages(t)
		x.Unmap(2)
		want := []int{0, 1}[:kept]
		for _, page := range want {
			b.Walk(x, uint64(page*32), false)
		}
		for _, write := range []bool{false, true} {
			wantTlbWalk(t, b, x, 64, write, 0, 0, api.ErrFault, false)
			wantTlbWalk(t, b, x, 95, write, 0, 0, api.ErrFault, false)
			wantKept(t, b, "faults of a page that is not mapped", want...)
			for _, addr := range badAddrs() {
				wantTlbWalk(t, b, x, addr, write, 0, 0, api.ErrFault, false)
			}
			wantKept(t, b, "faults past the end", want...)
		}
	}
}

func TestTlbPastTheEndOfKeptPages(t *testing.T) {
	b, x := NewTlb(), fourPages(t)
	b.Walk(x, 96, false)
	b.Walk(x, 0, false)
	for _, addr := range badAddrs() {
		wantTlbWalk(t, b, x, addr, false, 0, 0, api.ErrFault, false)
		wantTlbWalk(t, b, x, addr, true, 0, 0, api.ErrFault, false)
	}
	wantKept(t, b, "walks past the end", 3, 0)
}

func TestTlbAnswersByWhatIsKept(t *testing.T) {
	for _, c := range []struct {
		name   string
		change func(x *Table)
	}{
		{"another frame", func(x *Table) { x.Map(1, rw(9)) }},
		{"not writable any more", func(x *Table) { x.Map(1, ro(11)) }},
		{"not mapped any more", func(x *Table) { x.Unmap(1) }},
	} {
		b, x := NewTlb(), fourPages(t)
		b.Walk(x, 32, false)
		c.change(x)
		wantTlbWalk(t, b, x, 33, false, 11, 1, api.OK, true)
		wantTlbWalk(t, b, x, 34, true, 11, 2, api.OK, true)
		wantKept(t, b, c.name, 1)
	}
}

func TestTlbRefusesByWhatIsKept(t *testing.T) {
	b, x := NewTlb(), fourPages(t)
	b.Walk(x, 96, false)
	x.Map(3, rw(9))
	wantTlbWalk(t, b, x, 96, true, 0, 0, api.ErrProt, true)
	b.Drop(3)
	wantTlbWalk(t, b, x, 96, true, 9, 0, api.OK, false)
}

func TestTlbMayBeAskedOfAnotherTable(t *testing.T) {
	b, x, other := NewTlb(), fourPages(t), table(t, map[int]api.Page{0: rw(20)})
	b.Walk(x, 32, false)
	wantTlbWalk(t, b, other, 33, true, 11, 1, api.OK, true)
	wantTlbWalk(t, b, other, 0, true, 20, 0, api.OK, false)
	wantTlbWalk(t, b, other, 64, true, 0, 0, api.ErrFault, false)
	wantKept(t, b, "walks of two tables", 1, 0)
}

func TestTlbPageThatWentIsAskedAnew(t *testing.T) {
	b, x := NewTlb(), fourPages(t)
	b.Walk(x, 0, false)
	x.Map(0, rw(9))
	b.Walk(x, 32, false)
	b.Walk(x, 64, false)
	wantTlbWalk(t, b, x, 0, false, 9, 0, api.OK, false)
	wantKept(t, b, "a page that went and came", 2, 0)
}

func TestDropOfAKeptPage(t *testing.T) {
	for i, left := range [][]int{{2}, {0}} {
		b, x := NewTlb(), fourPages(t)
		b.Walk(x, 0, false)
		b.Walk(x, 64, false)
		b.Drop([]int{0, 2}[i])
		wantKept(t, b, "Drop", left...)
		wantTlbWalk(t, b, x, uint64(left[0]*32), false, 10+left[0], 0, api.OK, true)
		dropped := 2 - left[0]
		wantTlbWalk(t, b, x, uint64(dropped*32), false, 10+dropped, 0, api.OK, false)
		wantKept(t, b, "Drop and a walk", left[0], dropped)
		b.Drop(0)
		b.Drop(2)
		wantKept(t, b, "Drop of both")
	}
}

func TestDropOfNoKeptPage(t *testing.T) {
	b, x := NewTlb(), fourPages(t)
	for _, page := range append(badPages(), 0, 1, 2, 3) {
		b.Drop(page)
	}
	wantKept(t, b, "Drop of an empty TLB")
	b.Walk(x, 0, false)
	b.Walk(x, 64, false)
	for _, page := range append(badPages(), 1, 3) {
		b.Drop(page)
		wantKept(t, b, "Drop of another page", 0, 2)
	}
	x.Map(0, rw(9))
	wantTlbWalk(t, b, x, 0, false, 10, 0, api.OK, true)
}

func TestDropLeavesTheTable(t *testing.T) {
	b, x := NewTlb(), fourPages(t)
	want := image(x)
	b.Walk(x, 0, false)
	b.Drop(0)
	b.Walk(x, 32, true)
	b.Flush()
	wantImage(t, x, want, "Walk, Drop and Flush")
}

func TestFlush(t *testing.T) {
	b, x := NewTlb(), fourPages(t)
	b.Flush()
	wantKept(t, b, "Flush of an empty TLB")
	for kept := 1; kept <= 2; kept++ {
		for page := range kept {
			b.Walk(x, uint64(page*32), false)
		}
		x.Map(0, rw(20+kept))
		b.Flush()
		wantKept(t, b, "Flush")
		wantTlbWalk(t, b, x, 3, false, 20+kept, 3, api.OK, false)
		wantKept(t, b, "Flush and a walk", 0)
		b.Flush()
	}
}

func TestPagesIsNewMemory(t *testing.T) {
	b, x := NewTlb(), fourPages(t)
	b.Walk(x, 0, false)
	b.Walk(x, 32, false)
	first, second := b.Pages(), b.Pages()
	clear(append(first[:1], 9, 9, 9))
	first[0] = 3
	wantKept(t, b, "writes to an answer", 0, 1)
	b.Drop(0)
	b.Walk(x, 64, false)
	if !slices.Equal(second, []int{0, 1}) {
		t.Errorf("an answer became %v", second)
	}
}

func TestTlbsAreApart(t *testing.T) {
	b, other, x := NewTlb(), NewTlb(), fourPages(t)
	b.Walk(x, 0, false)
	wantTlbWalk(t, other, x, 0, false, 10, 0, api.OK, false)
	other.Walk(x, 32, false)
	other.Flush()
	wantKept(t, b, "calls on another TLB", 0)
}

func TestTlbOnNoTable(t *testing.T) {
	b, x := NewTlb(), fourPages(t)
	for range 2 {
		want := b.Pages()
		for _, addr := range append(badAddrs(), 0, 31, 32, 64, 127) {
			wantTlbWalk(t, b, nil, addr, false, 0, 0, api.ErrFault, false)
			wantTlbWalk(t, b, nil, addr, true, 0, 0, api.ErrFault, false)
		}
		wantKept(t, b, "walks of no table", want...)
		b.Walk(x, 0, false)
		b.Walk(x, 96, false)
	}
}

func TestNoTlbWalksWithoutKeeping(t *testing.T) {
	var b *Tlb
	x := fourPages(t)
	x.Unmap(2)
	for range 2 {
		wantTlbWalk(t, b, x, 33, true, 11, 1, api.OK, false)
		wantTlbWalk(t, b, x, 127, false, 13, 31, api.OK, false)
		wantTlbWalk(t, b, x, 127, true, 0, 0, api.ErrProt, false)
		wantTlbWalk(t, b, x, 64, false, 0, 0, api.ErrFault, false)
		wantTlbWalk(t, b, nil, 33, false, 0, 0, api.ErrFault, false)
		for _, addr := range badAddrs() {
			wantTlbWalk(t, b, x, addr, true, 0, 0, api.ErrFault, false)
		}
		wantKept(t, b, "walks without a TLB")
		b.Drop(1)
		b.Drop(math.MinInt)
		b.Flush()
	}
	x.Map(1, rw(9))
	wantTlbWalk(t, b, x, 33, true, 9, 1, api.OK, false)
}

func TestTlbThatNewTlbDidNotMake(t *testing.T) {
	b, x := new(Tlb), fourPages(t)
	b.Drop(0)
	b.Flush()
	wantTlbWalk(t, b, x, 0, false, 10, 0, api.OK, false)
	wantTlbWalk(t, b, x, 0, false, 10, 0, api.OK, true)
	wantKept(t, b, "walks", 0)
}

// 2.3, and long runs

// dice answers numbers that look like any, and are the same in each run.
type dice uint64

func (d *dice) next(n int) int {
	*d = *d*6364136223846793005 + 1442695040888963407
	return int(*d>>33) % n
}

// change does one change of a table, and answers which page it was of.
func change(x *Table, d *dice) int {
	page := d.next(6) - 1
	if d.next(3) == 0 {
		x.Unmap(page)
	} else {
		x.Map(page, api.Page{Frame: d.next(12) - 1, Writable: d.next(2) == 0})
	}
	return page
}

func anyAddr(d *dice) uint64 {
	if d.next(10) == 0 {
		return badAddrs()[d.next(len(badAddrs()))]
	}
	return uint64(d.next(128))
}

func TestToldTlbAnswersAsTheTable(t *testing.T) {
	d := dice(3)
	x, b := New(), NewTlb()
	hits := 0
	for i := range 20000 {
		if d.next(4) == 0 {
			b.Drop(change(x, &d))
			continue
		}
		addr, write := anyAddr(&d), d.next(2) == 0
		f, w, e := x.Walk(addr, write)
		g, v, h, hit := b.Walk(x, addr, write)
		if f != g || w != v || e != h {
			t.Fatalf("step %d: Walk(%d, %v): the table %d, %d, %d; the TLB %d, %d, %d", i, addr, write, f, w, e, g, v, h)
		}
		if hit {
			hits++
		}
	}
	if hits < 1000 {
		t.Errorf("only %d hits", hits)
	}
}

// model is a TLB as the chapter tells it: arrays by pages, and when each page came.
type model struct {
	came  [api.MaxPages]int // 0: not kept
	entry [api.MaxPages]api.Page
	now   int
}

func (m *model) pages() []int {
	var l []int
	for page, c := range m.came {
		if c > 0 {
			l = append(l, page)
		}
	}
	slices.SortFunc(l, func(a, b int) int { return m.came[a] - m.came[b] })
	return l
}

func (m *model) walk(x *Table, addr uint64, write bool) (int, int, api.Errno, bool) {
	if addr > 127 {
		return 0, 0, api.ErrFault, false
	}
	page := int(addr >> 5)
	hit := m.came[page] > 0
	if !hit {
		p, mapped := x.At(page)
		if !mapped {
			return 0, 0, api.ErrFault, false
		}
		m.now++
		m.came[page], m.entry[page] = m.now, p
		if l := m.pages(); len(l) == 3 {
			m.came[l[0]] = 0
		}
	}
	if write && !m.entry[page].Writable {
		return 0, 0, api.ErrProt, hit
	}
	return m.entry[page].Frame, int(addr & 31), api.OK, hit
}

func TestLongRunAgainstModel(t *testing.T) {
	d := dice(1)
	x, b, m := New(), NewTlb(), &model{}
	for i := range 20000 {
		switch d.next(8) {
		case 0, 1:
			change(x, &d)
		case 2:
			page := d.next(6) - 1
			b.Drop(page)
			if page >= 0 && page < 4 {
				m.came[page] = 0
			}
		case 3:
			if d.next(8) == 0 {
				b.Flush()
				m.came = [api.MaxPages]int{}
			}
		default:
			addr, write := anyAddr(&d), d.next(2) == 0
			f, w, e, hit := m.walk(x, addr, write)
			wantTlbWalk(t, b, x, addr, write, f, w, e, hit)
		}
		wantKept(t, b, "a step", m.pages()...)
		if t.Failed() {
			t.Fatalf("step %d", i)
		}
	}
}

func TestTableAgainstModel(t *testing.T) {
	d := dice(2)
	x := New()
	var want [api.MaxPages]entry
	for i := range 20000 {
		page, p := d.next(7)-2, api.Page{Frame: d.next(6) - 1, Writable: d.next(2) == 0}
		e, is := api.ErrArg, page >= 0 && page < 4
		if d.next(3) > 0 {
			if is && p.Frame >= 0 {
				want[page], e = entry{p, true}, api.OK
			}
			if g := x.Map(page, p); g != e {
				t.Fatalf("step %d: Map(%d, %v) = %d, want %d", i, page, p, g, e)
			}
		} else {
			if is {
				e = api.ErrFault
			}
			if is && want[page].mapped {
				want[page], e = entry{}, api.OK
			}
			if g := x.Unmap(page); g != e {
				t.Fatalf("step %d: Unmap(%d) = %d, want %d", i, page, g, e)
			}
		}
		wantImage(t, x, want, "a step")
		if t.Failed() {
			t.Fatalf("step %d", i)
		}
	}
}

func TestChaptersExamples(t *testing.T) {
	x, b := New(), NewTlb()
	if e := x.Map(1, rw(7)); e != api.OK {
		t.Fatalf("Map(1) = %d", e)
	}
	wantWalk(t, x, 33, true, 7, 1, api.OK)
	wantWalk(t, x, 128, false, 0, 0, api.ErrFault)
	wantTlbWalk(t, b, x, 33, true, 7, 1, api.OK, false)
	x.Map(1, rw(9))
	wantTlbWalk(t, b, x, 33, true, 7, 1, api.OK, true)
	b.Drop(1)
	wantTlbWalk(t, b, x, 33, true, 9, 1, api.OK, false)
}
