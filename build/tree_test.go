package build_test

import (
	"math"
	"slices"
	"strings"
	"testing"

	"careenage/api"
	"careenage/branch"
	"careenage/build"
	"careenage/chain"
	"careenage/cursor"
	"careenage/leaf"
)

// P13.2

// wantTree asks for the pages of a tree, and returns them.
func wantTree(t *testing.T, size int, tx uint64, from uint32, l []api.Pair) []api.Page {
	t.Helper()
	want, _ := tree(size, tx, from, l)
	last := uint32(0)
	if len(want) > 0 {
		last = want[len(want)-1].Page
	}
	pages, root, e := build.Tree(size, tx, from, l)
	if e != api.OK || root != last || !slices.Equal(pages, want) {
		t.Errorf("Tree of size %d, transaction %d, from %d, %d pairs: %d pages, root %d, %d, not %d, %d", size, tx, from, len(l), len(pages), root, e, len(want), last)
	}
	if n, e := build.Need(size, l); n != len(want) || e != api.OK {
		t.Errorf("Need of size %d, %d pairs: %d %d, not %d", size, len(l), n, e, len(want))
	}
	return pages
}

func wantNoTree(t *testing.T, size int, tx uint64, from uint32, l []api.Pair) {
	t.Helper()
	if pages, root, e := build.Tree(size, tx, from, l); len(pages) != 0 || root != 0 || e != api.ErrArg {
		t.Errorf("Tree of size %d, transaction %d, from %d, %d pairs: %d pages, root %d, %d", size, tx, from, len(l), len(pages), root, e)
	}
}

// wantWrong asks for the error of Need, which Tree returns too.
func wantWrong(t *testing.T, size int, l []api.Pair) {
	t.Helper()
	if n, e := build.Need(size, l); n != 0 || e != api.ErrArg {
		t.Errorf("Need of size %d, %d pairs: %d %d", size, len(l), n, e)
	}
	wantNoTree(t, size, 5, 7, l)
}

func TestTreeOfNothing(t *testing.T) {
	for _, size := range goodSizes {
		for _, from := range []uint32{2, 7, math.MaxInt32} {
			wantTree(t, size, 5, from, nil)
			wantTree(t, size, 1<<62, from, []api.Pair{})
		}
	}
}

func TestTreeOfALeaf(t *testing.T) {
	p := wantTree(t, 128, 5, 7, []api.Pair{pair("k", "v")})
	want := api.Page{Kind: 4, Count: 1, Page: 7, Tx: 5, Body: "\x00\x01k\x01v" + strings.Repeat("\x00", 99)}
	if len(p) != 1 || p[0] != want {
		t.Error(p)
	}
	wantTree(t, 128, 5, 7, []api.Pair{pair("", "")})
	wantTree(t, 128, 5, 7, []api.Pair{pair("", ""), pair("\x00", ""), pair("\x00\x00", ""), pair("\x7f", ""), pair("\x80", ""), pair("\xff", "")})
	wantTree(t, 128, 5, 7, []api.Pair{pair(strings.Repeat("k", 40), text(16))})
}

// Two long values, the leaves, and the branch above them, one by one.
func TestTreeWhosePagesAreTold(t *testing.T) {
	long := strings.Repeat("k", 40)
	l := []api.Pair{pair("a"+long[1:], text(105)), pair("b"+long[1:], text(16)), pair("c"+long[1:], text(17))}
	p := wantTree(t, 128, 5, 7, l)
	var told [][5]int
	for _, q := range p {
		told = append(told, [5]int{q.Kind, q.Count, int(q.Page), int(q.Link), int(q.Tx)})
	}
	want := [][5]int{
		{api.KindOver, 104, 7, 8, 5},
		{api.KindOver, 1, 8, 0, 5},
		{api.KindOver, 17, 9, 0, 5},
		{api.KindLeaf, 1, 10, 0, 5},
		{api.KindLeaf, 1, 11, 0, 5},
		{api.KindLeaf, 1, 12, 0, 5},
		{api.KindBranch, 2, 13, 0, 5},
		{api.KindBranch, 1, 14, 0, 5},
		{api.KindBranch, 2, 15, 0, 5},
	}
	if !slices.Equal(told, want) {
		t.Errorf("%d, not\n%d", told, want)
	}
	first, _ := leaf.Of(p[3])
	below, _ := branch.Of(p[6])
	root, _ := branch.Of(p[8])
	if !slices.Equal(first, []api.Item{over(l[0].Key, 105, 7)}) ||
		!slices.Equal(below, []api.Fork{fork(l[0].Key, 10), fork(l[1].Key, 11)}) ||
		!slices.Equal(root, []api.Fork{fork(l[0].Key, 13), fork(l[2].Key, 14)}) {
		t.Error(first, below, root)
	}
}

func TestTrees(t *testing.T) {
	for _, size := range goodSizes {
		room := size - 24
		for _, keys := range [][]int{{6}, {40}, {6, 40}, {7, 12, 33, 6}} {
			for _, values := range [][]int{{0}, {5, 16, 17}, {size / 8, size/8 + 1}, {255, 256}, {room - 1, room, room + 1, 1}, {min(4096, 2*room), 0, 0, min(4096, 2*room+1)}, {4095, 4096, 3}} {
				for _, count := range []int{1, 2, 3, 7, 40, 300} {
					wantTree(t, size, 5, 7, numbered(count, keys, values))
				}
			}
		}
		wantTree(t, size, 9, 2, numbered(5000, []int{6, 9, 40}, []int{0, 3, size / 8, 9}))
	}
}

// Of each count, so that the nodes of each level are just full, and just not.
func TestTreesOfEachCount(t *testing.T) {
	for count := range 400 {
		wantTree(t, 128, 5, 2, numbered(count, []int{6}, []int{0}))
		wantTree(t, 128, 5, 2, numbered(count, []int{count % 41}, []int{count % 23}))
		wantTree(t, 192, 5, 2, numbered(count, []int{40, 6, 6}, []int{count % 30}))
	}
}

func TestValuesOfEachLength(t *testing.T) {
	for _, size := range goodSizes {
		for length := range 600 {
			wantTree(t, size, 5, 7, []api.Pair{pair("a", text(length)), pair("b", text(length+1)), pair("c", "v")})
		}
		for length := 4000; length <= 4096; length++ {
			wantTree(t, size, 5, 7, []api.Pair{pair("a", text(length)), pair("b", text(9))})
		}
	}
}

func TestTreesOfScripts(t *testing.T) {
	for n := range 1000 {
		for _, size := range []int{128, 192, 256, 576} {
			s := script(mixed(n))
			wantTree(t, size, uint64(n), uint32(n+2), s.pairs(size))
		}
	}
}

func FuzzTrees(f *testing.F) {
	for n := range 20 {
		f.Add(n, mixed(40*n), uint64(n), uint32(n))
	}
	f.Fuzz(func(t *testing.T, n int, bytes string, tx uint64, from uint32) {
		size := 128 + 64*int(uint(n)%63)
		s := script(bytes)
		l := s.pairs(size)
		pages, _ := tree(size, 5, 7, l)
		if from < 2 || from > math.MaxInt32 || tx > 1<<62 || len(pages) > 1<<31-int(from) {
			wantNoTree(t, size, tx, from, l)
		} else {
			wantTree(t, size, tx, from, l)
		}
		l = append(l, pair(bytes[:min(41, len(bytes))], text(9)))
		if n, e := build.Need(n, l); e != api.OK && (n != 0 || e != api.ErrArg) {
			t.Errorf("%d %d", n, e)
		}
	})
}

func TestNoTreeOfASizeThatIsNotGood(t *testing.T) {
	for _, size := range wrongSizes {
		wantWrong(t, size, nil)
		wantWrong(t, size, []api.Pair{pair("k", "v")})
		wantWrong(t, size, []api.Pair{pair("k", text(300))})
	}
}

func TestNoTreeOfPairsThatAreWrong(t *testing.T) {
	long := strings.Repeat("k", 41)
	for _, size := range goodSizes {
		l := numbered(30, []int{6, 40}, []int{0, 17, 4096})
		for at := range l {
			for _, wrong := range []api.Pair{
				pair(l[at].Key[:6]+long[6:], "v"),
				pair(l[at].Key+strings.Repeat("k", 300), "v"),
				pair(l[at].Key, text(4097)),
				pair(l[at].Key, text(5000)),
			} {
				wantWrong(t, size, slices.Concat(l[:at], []api.Pair{wrong}, l[at+1:]))
				wantWrong(t, size, []api.Pair{wrong})
			}
			if at == 0 {
				continue
			}
			wantWrong(t, size, slices.Insert(slices.Clone(l), at, l[at-1]))
			wantWrong(t, size, slices.Insert(slices.Clone(l), at, pair(l[at-1].Key, "other")))
			wantWrong(t, size, slices.Concat(l[:at-1], []api.Pair{l[at], l[at-1]}, l[at+1:]))
			wantWrong(t, size, append(slices.Clone(l), l[0]))
		}
	}
	for _, keys := range [][2]string{{"", ""}, {"a", ""}, {"b", "a"}, {"ab", "a"}, {"\x80", "\x7f"}, {"\xff", "a"}, {"a\x00", "a"}} {
		wantWrong(t, 128, []api.Pair{pair(keys[0], "v"), pair(keys[1], "w")})
	}
}

func TestPagesOfATreeEndAtTheLastOne(t *testing.T) {
	for _, l := range [][]api.Pair{
		numbered(1, []int{6}, []int{0}),
		numbered(1, []int{6}, []int{17}),
		numbered(1, []int{6}, []int{4096}),
		numbered(2, []int{40}, []int{16}),
		numbered(100, []int{40, 7}, []int{16, 0, 300}),
	} {
		pages, _ := tree(128, 5, 2, l)
		n := uint32(len(pages))
		wantTree(t, 128, 5, 2, l)
		wantTree(t, 128, 5, 1<<31-n, l)
		wantTree(t, 128, 5, 1<<31-n-1, l)
		for from := 1<<31 - n + 1; from < 1<<31+9; from++ {
			wantNoTree(t, 128, 5, from, l)
		}
	}
}

func TestNoTreeFromAPageOrOfATransactionThatIsWrong(t *testing.T) {
	for _, l := range [][]api.Pair{nil, {}, {pair("k", "v")}, {pair("k", text(300))}, numbered(50, []int{40}, []int{16})} {
		for _, from := range []uint32{0, 1, 1 << 31, 1<<31 + 2, math.MaxUint32 - 1, math.MaxUint32} {
			wantNoTree(t, 128, 5, from, l)
		}
		for _, tx := range []uint64{1<<62 + 1, 1 << 63, math.MaxUint64} {
			wantNoTree(t, 128, tx, 7, l)
		}
		for _, tx := range []uint64{0, 1, 1 << 32, 1<<62 - 1, 1 << 62} {
			wantTree(t, 128, tx, 7, l)
		}
	}
}

func TestTreeLeavesItsArgumentAlone(t *testing.T) {
	l := spare(numbered(50, []int{40, 6}, []int{16, 300}), pair("rest", "rest"))
	kept := slices.Clone(l[:cap(l)])
	first := wantTree(t, 128, 5, 7, l)
	second := wantTree(t, 128, 5, 7, l)
	for i := range first[:cap(first)] {
		first[:cap(first)][i] = api.Page{}
	}
	if !slices.Equal(l[:cap(l)], kept) {
		t.Error("pairs changed")
	}
	want, _ := tree(128, 5, 7, l)
	if !slices.Equal(second, want) {
		t.Error("one tree changed with another one")
	}
}

// P13.3

// wantRead asks for the pairs of a tree that was made and laid.
func wantRead(t *testing.T, size int, from uint32, l []api.Pair) {
	t.Helper()
	pages, root, e := build.Tree(size, 5, from, l)
	image, f := chain.Lay(size, "", pages)
	if e != api.OK || f != api.OK {
		t.Fatal(e, f)
	}
	i := 0
	for p, e := range cursor.All(size, image, root) {
		if e != api.OK || i == len(l) || p != l[i] {
			t.Fatalf("pair %d of %d, size %d: %.50q %d", i, len(l), size, p, e)
		}
		i++
	}
	if i != len(l) {
		t.Errorf("%d pairs of %d", i, len(l))
	}
	visited, _ := cursor.Pages(size, image, root)
	if len(visited) != len(pages) {
		t.Errorf("%d pages of %d", len(visited), len(pages))
	}
}

func TestTreesAreReadBack(t *testing.T) {
	for _, size := range goodSizes {
		for _, count := range []int{0, 1, 2, 3, 29, 400} {
			wantRead(t, size, 2, numbered(count, []int{6}, []int{0}))
			wantRead(t, size, 77, numbered(count, []int{40}, []int{1, 16, 17, 5}))
			wantRead(t, size, 3, numbered(count, []int{6, 40}, []int{0, 20, 300, 4096}))
		}
		for n := range 100 {
			s := script(mixed(n))
			wantRead(t, size, uint32(n+2), s.pairs(size))
		}
	}
}

// With keys and values this long a leaf holds one, and a branch two: 2 to the power of 15 leaves have 15 levels of branches above them.
func TestTreesOfTheGreatestDepth(t *testing.T) {
	l := numbered(1<<15+1, []int{40}, []int{16})
	wantRead(t, 128, 2, l[:1<<15])
	if _, levels := tree(128, 5, 2, l[:1<<15]); levels != 16 {
		t.Error(levels)
	}
	pages := wantTree(t, 128, 5, 2, l) // there is a tree that is deeper, but it is not read
	image, _ := chain.Lay(128, "", pages)
	if d, e := cursor.Depth(128, image, pages[len(pages)-1].Page); d != 0 || e != api.ErrBad {
		t.Error(d, e)
	}
}

// fewest is the number of leaves with which a tree of items can do, whatever its parts.
func fewest(l []api.Item, room int) int {
	best := make([]int, len(l)+1) // for as many items from the front
	for end := 1; end <= len(l); end++ {
		best[end] = math.MaxInt
		taken := 0
		for begin := end - 1; begin >= 0; begin-- {
			taken += len(itemRecord(l[begin]).bytes)
			if taken <= room {
				best[end] = min(best[end], best[begin]+1)
			}
		}
	}
	return best[len(l)]
}

func wantFewest(t *testing.T, size int, l []api.Pair) {
	t.Helper()
	var items []api.Item
	for _, p := range l {
		if len(p.Value) > min(size/8, 255) {
			items = append(items, over(p.Key, len(p.Value), 9))
		} else {
			items = append(items, in(p.Key, p.Value))
		}
	}
	pages, _, _ := build.Tree(size, 5, 7, l)
	leaves := 0
	for _, p := range pages {
		if p.Kind == api.KindLeaf {
			leaves++
		}
	}
	parts, _ := build.Leaves(size, items)
	if want := fewest(items, size-24); leaves != want || len(parts) != want {
		t.Errorf("size %d, %d pairs: %d leaves, %d parts, not %d", size, len(l), leaves, len(parts), want)
	}
}

func TestNoTreeHasFewerLeaves(t *testing.T) {
	forms := [][2]int{{6, 0}, {6, 16}, {40, 0}, {40, 16}, {40, 17}, {23, 8}}
	lists := [][]api.Pair{nil}
	for begin := 0; len(lists[begin]) < 6; begin++ {
		for _, f := range forms {
			key, value := keyed(len(lists[begin]), f[0]), text(f[1])
			lists = append(lists, append(slices.Clone(lists[begin]), pair(key, value)))
		}
	}
	for _, l := range lists {
		wantFewest(t, 128, l)
	}
	for _, size := range goodSizes {
		for n := range 150 {
			s := script(mixed(n))
			wantFewest(t, size, s.pairs(size))
		}
	}
}
