package alloc_test

import (
	"slices"
	"testing"

	"careenage/alloc"
	"careenage/api"
)

// The states of a page, as the chapter tells of them.
const (
	inUse     = iota // before the allocation was made, and still
	isFree           // immediately
	isTaken          // and not given back
	givenBack        // having been in use
)

// model is an allocation a second time: the state of each page, the metas included.
type model struct {
	states []int
	most   int
}

func modelOf(free []uint32, pages, most uint32) model {
	m := model{make([]int, pages), int(most)}
	for _, n := range free {
		m.states[n] = isFree
	}
	return m
}

func (m model) copy() model {
	return model{slices.Clone(m.states), m.most}
}

func (m *model) take() (uint32, api.Errno) {
	for n, s := range m.states {
		if s == isFree {
			m.states[n] = isTaken
			return uint32(n), api.OK
		}
	}
	if len(m.states) == m.most {
		return 0, api.ErrFull
	}
	m.states = append(m.states, isTaken)
	return uint32(len(m.states) - 1), api.OK
}

func (m *model) give(n uint32) api.Errno {
	if n < 2 || uint64(n) >= uint64(len(m.states)) {
		return api.ErrArg
	}
	switch m.states[n] {
	case inUse:
		m.states[n] = givenBack
	case isTaken:
		m.states[n] = isFree
	default:
		return api.ErrState
	}
	return api.OK
}

// those are the pages in some states, ascending.
func (m model) those(states ...int) []uint32 {
	var l []uint32
	for n, s := range m.states {
		if slices.Contains(states, s) {
			l = append(l, uint32(n))
		}
	}
	return l
}

// wantSame asks an allocation for all that it tells without being changed.
func wantSame(t *testing.T, a *alloc.Alloc, m model) {
	t.Helper()
	free, taken, left := m.those(isFree, givenBack), m.those(isTaken), len(m.those(isFree))+m.most-len(m.states)
	if a.Pages() != uint32(len(m.states)) || a.Left() != left || !slices.Equal(a.Free(), free) || !slices.Equal(a.Taken(), taken) {
		t.Fatalf("%d: pages %d, left %d, free %d, taken %d, not %d %d %d", m.states, a.Pages(), a.Left(), a.Free(), a.Taken(), left, free, taken)
	}
	for n := range uint32(len(m.states) + 3) {
		if a.Mine(n) != slices.Contains(taken, n) {
			t.Fatalf("%d: page %d is mine: %v", m.states, n, a.Mine(n))
		}
	}
}

// takeIn is the operation of a script that takes a page; each other number is given.
const takeIn = 1<<32 - 1

// both does an operation on an allocation and its model, and asks for the same result.
func both(t *testing.T, a *alloc.Alloc, m *model, what uint32) {
	t.Helper()
	before := slices.Clone(m.states)
	if what != takeIn {
		want := m.give(what)
		if e := a.Give(what); e != want {
			t.Fatalf("%d: Give %d: %d, not %d", before, what, e, want)
		}
		return
	}
	want, f := m.take()
	if n, e := a.Take(); n != want || e != f {
		t.Fatalf("%d: Take: %d %d, not %d %d", before, n, e, want, f)
	}
}

func made(t *testing.T, free []uint32, pages, most uint32) (*alloc.Alloc, model) {
	t.Helper()
	a, e := alloc.New(free, pages, most)
	if e != api.OK || a == nil {
		t.Fatalf("New %d, %d, %d: %v %d", free, pages, most, a, e)
	}
	return a, modelOf(free, pages, most)
}

// eachSmall yields all allocations of few pages.
func eachSmall(yield func(free []uint32, pages, most uint32)) {
	for pages := uint32(2); pages <= 6; pages++ {
		for set := range 1 << (pages - 2) {
			var l []uint32
			for n := uint32(2); n < pages; n++ {
				if set>>(n-2)&1 == 1 {
					l = append(l, n)
				}
			}
			for most := pages; most <= pages+2; most++ {
				yield(l, pages, most)
			}
		}
	}
}

// run are numbers from one on, up to another one.
func run(from, to uint32) []uint32 {
	var l []uint32
	for n := from; n < to; n++ {
		l = append(l, n)
	}
	return l
}

// dice tells numbers that look accidental, always the same.
type dice uint32

func (d *dice) below(n uint32) uint32 {
	*d = *d*1664525 + 1013904223
	return uint32(uint64(*d) * uint64(n) >> 32)
}

// some are numbers below pages, each third or so.
func (d *dice) some(pages uint32) []uint32 {
	return slices.DeleteFunc(run(2, pages), func(uint32) bool { return d.below(3) > 0 })
}
