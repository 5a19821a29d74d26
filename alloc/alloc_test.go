package alloc_test

import (
	"math"
	"slices"
	"testing"

	"careenage/alloc"
	"careenage/api"
)

// P14.1

func TestNewHasTakenNothing(t *testing.T) {
	eachSmall(func(free []uint32, pages, most uint32) {
		a, m := made(t, free, pages, most)
		wantSame(t, a, m)
	})
	for _, most := range []uint32{5000, 5001, api.MaxPages - 1, api.MaxPages} {
		for _, free := range [][]uint32{nil, {}, {2}, {4999}, {2, 4999}, run(2, 5000), run(1000, 2000)} {
			a, m := made(t, free, 5000, most)
			wantSame(t, a, m)
		}
	}
}

func wantNoAlloc(t *testing.T, free []uint32, pages, most uint32) {
	t.Helper()
	if a, e := alloc.New(free, pages, most); a != nil || e != api.ErrArg {
		t.Errorf("New %d, %d, %d: %v %d", free, pages, most, a, e)
	}
}

func TestNewOfWrongNumbersOfPages(t *testing.T) {
	counts := []uint32{0, 1, 2, 3, 7, api.MaxPages - 1, api.MaxPages, api.MaxPages + 1, 1 << 31, math.MaxUint32 - 1, math.MaxUint32}
	for _, pages := range counts {
		for _, most := range counts {
			for _, free := range [][]uint32{nil, {2}, {2, 3, 6}} {
				below := len(free) == 0 || free[len(free)-1] < pages
				if pages < 2 || pages > most || most > 1<<20 || !below {
					wantNoAlloc(t, free, pages, most)
				} else if a, e := alloc.New(free, pages, most); e != api.OK || a.Pages() != pages || a.Left() != len(free)+int(most-pages) {
					t.Errorf("New %d, %d, %d: %d", free, pages, most, e)
				}
			}
		}
	}
}

// All lists of up to 5 numbers around the edges, in whichever order.
func TestNewOfFreeNumbers(t *testing.T) {
	const pages = 6
	all := [][]uint32{nil}
	for i := 0; i < len(all); i++ {
		l := all[i]
		right := true
		for j, n := range l {
			right = right && n >= 2 && n < pages && (j == 0 || l[j-1] < n)
		}
		if right {
			a, m := made(t, l, pages, 9)
			wantSame(t, a, m)
		} else {
			wantNoAlloc(t, l, pages, 9)
		}
		if len(l) == 5 {
			continue
		}
		for _, n := range []uint32{0, 1, 2, 3, 5, 6, 7, math.MaxUint32} {
			all = append(all, append(slices.Clone(l), n))
		}
	}
}

// Each number is asked for, wherever it stands.
func TestNewOfEachPlace(t *testing.T) {
	for i := range 98 {
		for _, wrong := range []uint32{0, 1, 100, 101, 1 << 31, math.MaxUint32} {
			l := run(2, 100)
			l[i] = wrong
			wantNoAlloc(t, l, 100, 100)
		}
		if i > 0 {
			l := run(2, 100)
			l[i] = l[i-1]
			wantNoAlloc(t, l, 100, 100)
			l[i], l[i-1] = 2+uint32(i)-1, 2+uint32(i)
			wantNoAlloc(t, l, 100, 100)
		}
	}
}

func TestExample(t *testing.T) {
	a, _ := made(t, []uint32{3, 5}, 6, 7)
	for _, want := range []uint32{3, 5, 6} {
		if n, e := a.Take(); n != want || e != api.OK {
			t.Errorf("%d %d, not %d", n, e, want)
		}
	}
	for range 3 {
		if n, e := a.Take(); n != 0 || e != api.ErrFull {
			t.Errorf("%d %d", n, e)
		}
	}
	if a.Pages() != 7 || a.Left() != 0 || len(a.Free()) != 0 || !slices.Equal(a.Taken(), []uint32{3, 5, 6}) {
		t.Error(a.Pages(), a.Left(), a.Free(), a.Taken())
	}
}

// A page that was taken can be taken again once it is given back; one that was in use only after the allocation.
func TestGive(t *testing.T) {
	a, m := made(t, []uint32{3, 5}, 7, 8)
	steps := []struct {
		what uint32
		want api.Errno
	}{
		{0, api.ErrArg}, {1, api.ErrArg}, {7, api.ErrArg}, {8, api.ErrArg}, {math.MaxUint32 - 1, api.ErrArg},
		{3, api.ErrState}, {5, api.ErrState}, // free
		{2, api.OK}, {2, api.ErrState}, // given back
		{takeIn, api.OK}, // 3
		{3, api.OK}, {3, api.ErrState},
		{takeIn, api.OK}, {takeIn, api.OK}, {takeIn, api.OK}, {takeIn, api.ErrFull}, // 3, 5 and 7
		{6, api.OK}, {takeIn, api.ErrFull}, {6, api.ErrState},
		{7, api.OK}, {7, api.ErrState}, {3, api.OK}, {takeIn, api.OK}, // 3, as it is the smallest
		{8, api.ErrArg}, {4, api.OK},
	}
	for i, s := range steps {
		var e api.Errno
		if s.what == takeIn {
			_, e = a.Copy().Take()
		} else {
			e = a.Copy().Give(s.what)
		}
		if e != s.want {
			t.Errorf("step %d, %d: %d, not %d", i, s.what, e, s.want)
		}
		both(t, a, &m, s.what)
		wantSame(t, a, m)
	}
	if !slices.Equal(a.Free(), []uint32{2, 4, 6, 7}) || !slices.Equal(a.Taken(), []uint32{3, 5}) || a.Left() != 1 {
		t.Error(a.Free(), a.Taken(), a.Left())
	}
}

// The number of pages stays when the last of them is given back.
func TestPagesDoNotBecomeFewer(t *testing.T) {
	a, _ := made(t, nil, 2, 3)
	for range 3 {
		if n, e := a.Take(); n != 2 || e != api.OK {
			t.Error(n, e)
		}
		if e := a.Give(2); e != api.OK || a.Pages() != 3 || a.Left() != 1 {
			t.Error(e, a.Pages(), a.Left())
		}
	}
}

func TestAllPages(t *testing.T) {
	a, _ := made(t, []uint32{api.MaxPages - 2}, api.MaxPages-1, api.MaxPages)
	for _, want := range []uint32{api.MaxPages - 2, api.MaxPages - 1} {
		if n, e := a.Take(); n != want || e != api.OK {
			t.Error(n, e)
		}
	}
	if n, e := a.Take(); n != 0 || e != api.ErrFull {
		t.Error(n, e)
	}
	for _, n := range []uint32{0, 1, api.MaxPages, api.MaxPages + 2, 1 << 31, 1<<31 + 2, math.MaxUint32} {
		if e := a.Give(n); e != api.ErrArg || a.Mine(n) {
			t.Error(n, e, a.Mine(n))
		}
	}
	for n := uint32(2); n < api.MaxPages; n++ {
		if e := a.Give(n); e != api.OK {
			t.Fatal(n, e)
		}
	}
	if !slices.Equal(a.Free(), run(2, api.MaxPages)) || len(a.Taken()) != 0 || a.Left() != 2 {
		t.Error(len(a.Free()), a.Taken(), a.Left())
	}
}

func TestInvalidAllocations(t *testing.T) {
	good, m := made(t, []uint32{3, 5}, 6, 8)
	both(t, good, &m, takeIn)
	both(t, good, &m, 2)
	taken := *good
	overlaid, _ := made(t, nil, 9, 9)
	*overlaid = *good
	copied := *good.Copy()
	invalid := map[string]*alloc.Alloc{"nil": nil, "not made": {}, "a copy by value": &taken, "overlaid": overlaid, "a copy of a copy": &copied}
	for name, a := range invalid {
		if n, e := a.Take(); n != 0 || e != api.ErrNil {
			t.Errorf("%s: Take: %d %d", name, n, e)
		}
		for _, n := range []uint32{0, 2, 3, 4, 5, 6, math.MaxUint32} {
			if e := a.Give(n); e != api.ErrNil || a.Mine(n) {
				t.Errorf("%s: page %d: %d %v", name, n, e, a.Mine(n))
			}
		}
		if a.Left() != 0 || a.Pages() != 0 || len(a.Free()) != 0 || len(a.Taken()) != 0 || a.Copy() != nil {
			t.Errorf("%s: %d %d %d %d %v", name, a.Left(), a.Pages(), a.Free(), a.Taken(), a.Copy())
		}
	}
	wantSame(t, good, m)
}

// after does all scripts of up to so many operations, each on a copy of what was there before it.
func after(t *testing.T, a *alloc.Alloc, m model, depth int) {
	wantSame(t, a, m)
	if depth == 0 {
		return
	}
	for _, what := range append(run(0, uint32(m.most)+1), takeIn) {
		b, n := a.Copy(), m.copy()
		both(t, b, &n, what)
		after(t, b, n, depth-1)
	}
	wantSame(t, a, m)
}

func TestAllShortScripts(t *testing.T) {
	eachSmall(func(free []uint32, pages, most uint32) {
		if pages < 6 {
			a, m := made(t, free, pages, most)
			after(t, a, m, 4)
		}
	})
}

// From each state that a small allocation can come to, each operation.
func TestAllStates(t *testing.T) {
	type way struct {
		a *alloc.Alloc
		m model
	}
	eachSmall(func(free []uint32, pages, most uint32) {
		a, m := made(t, free, pages, most)
		seen := map[[8]int]bool{}
		for ways := []way{{a, m}}; len(ways) > 0; {
			w := ways[len(ways)-1]
			ways = ways[:len(ways)-1]
			var key [8]int // of a page that there is not yet, another number than of one in use
			for n, s := range w.m.states {
				key[n] = s + 1
			}
			if seen[key] {
				continue
			}
			seen[key] = true
			for _, what := range append(run(0, most+2), takeIn) {
				b, n := w.a.Copy(), w.m.copy()
				both(t, b, &n, what)
				wantSame(t, b, n)
				ways = append(ways, way{b, n})
			}
		}
	})
}

// script does operations that look accidental, more of one kind for a while, then more of the other.
func script(t *testing.T, a *alloc.Alloc, m *model, d *dice, steps int) {
	t.Helper()
	for i := range steps {
		what := uint32(takeIn)
		if d.below(8) < 2+4*(uint32(i)/100%2) {
			what = d.below(uint32(m.most) + 3)
		}
		both(t, a, m, what)
		if i%16 == 0 {
			wantSame(t, a, *m)
		}
	}
	wantSame(t, a, *m)
}

func TestLongScripts(t *testing.T) {
	for i := range 300 {
		d := dice(i)
		pages := 2 + d.below(60)
		a, m := made(t, d.some(pages), pages, pages+d.below(40))
		script(t, a, &m, &d, 600)
	}
}

func FuzzScripts(f *testing.F) {
	f.Add([]byte{3, 5}, uint32(6), uint32(7), []byte{0, 0, 0, 0, 5, 4, 4, 7})
	f.Fuzz(func(t *testing.T, list []byte, pages, most uint32, operations []byte) {
		var free []uint32
		for _, n := range list {
			free = append(free, uint32(n))
		}
		a, e := alloc.New(free, pages, most)
		right := pages >= 2 && pages <= most && most <= 1<<20
		for i, n := range free {
			right = right && n >= 2 && n < pages && (i == 0 || free[i-1] < n)
		}
		if !right {
			if a != nil || e != api.ErrArg {
				t.Fatal(a, e)
			}
			return
		}
		a, m := made(t, free, pages, most)
		for _, what := range operations {
			if what == 0 {
				both(t, a, &m, takeIn)
			} else {
				both(t, a, &m, uint32(what))
			}
		}
		wantSame(t, a, m)
	})
}

// P14.2

// Whichever of a copy and the original is changed, the other one stays.
func TestCopiesAreIndependent(t *testing.T) {
	for i := range 200 {
		d := dice(i)
		pages := 2 + d.below(30)
		a, m := made(t, d.some(pages), pages, pages+d.below(20))
		script(t, a, &m, &d, int(d.below(60)))
		b, n := a.Copy(), m.copy()
		script(t, a, &m, &d, 30)
		wantSame(t, b, n)
		script(t, b, &n, &d, 30)
		wantSame(t, a, m)
		for range 50 { // each in turn, so that what they share would be overwritten
			both(t, a, &m, takeIn)
			both(t, b, &n, d.below(uint32(n.most)))
			both(t, a, &m, d.below(uint32(m.most)))
			both(t, b, &n, takeIn)
		}
		wantSame(t, a, m)
		wantSame(t, b, n)
	}
}

// overwrite fills a list and its spare capacity.
func overwrite(l []uint32) {
	l = l[:cap(l)]
	for i := range l {
		l[i] = 77
	}
}

func TestResultsAreNewMemory(t *testing.T) {
	for i := range 100 {
		d := dice(i)
		pages := 2 + d.below(30)
		a, m := made(t, d.some(pages), pages, pages+d.below(20))
		script(t, a, &m, &d, int(d.below(60)))
		free, taken := a.Free(), a.Taken()
		wantFree, wantTaken := slices.Clone(free), slices.Clone(taken)
		overwrite(a.Free())
		overwrite(a.Taken())
		wantSame(t, a, m)
		script(t, a, &m, &d, 40)
		if !slices.Equal(free, wantFree) || !slices.Equal(taken, wantTaken) {
			t.Fatal("a result changed")
		}
		overwrite(free)
		overwrite(taken)
		wantSame(t, a, m)
	}
}

func TestNewLeavesItsArgumentAlone(t *testing.T) {
	for i := range 100 {
		d := dice(i)
		all := append(d.some(30), 77, 77, 77)
		list := all[:len(all)-3]
		kept := slices.Clone(all)
		a, m := made(t, list, 30, 40)
		script(t, a, &m, &d, 60)
		if !slices.Equal(all, kept) {
			t.Fatalf("%d became %d", kept, all)
		}
		overwrite(all)
		wantSame(t, a, m)
		script(t, a, &m, &d, 60)
	}
}

// P14.3

func TestNoPageIsTakenTwiceOrWasInUse(t *testing.T) {
	for i := range 200 {
		d := dice(i)
		pages := 2 + d.below(100)
		free := d.some(pages)
		most := pages + d.below(60)
		a, _ := made(t, free, pages, most)
		held := map[uint32]bool{}
		for range 1000 {
			if d.below(2) == 0 {
				n := d.below(most + 3)
				if a.Give(n) == api.OK {
					delete(held, n)
				}
				continue
			}
			n, e := a.Take()
			if e != api.OK {
				continue
			}
			used := n < pages && !slices.Contains(free, n)
			if held[n] || used || n < 2 || n >= most {
				t.Fatalf("page %d was taken: held %v, in use %v", n, held[n], used)
			}
			held[n] = true
		}
	}
}
