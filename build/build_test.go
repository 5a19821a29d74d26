package build_test

import (
	"math"
	"math/big"
	"slices"
	"strings"
	"testing"

	"careenage/api"
	"careenage/build"
)

// P13.1

func wantCut(t *testing.T, sizes []int, room int, want ...int) {
	t.Helper()
	if got := build.Cut(sizes, room); !slices.Equal(got, want) {
		t.Errorf("Cut of %d, room %d: %d, not %d", sizes, room, got, want)
	}
}

// ends are the ends of the parts, a second time: sums of numbers that do not overflow.
func ends(sizes []int, room int) []int {
	var l []int
	for _, n := range sizes {
		if n < 0 || n > room {
			return nil
		}
	}
	for begin := 0; begin < len(sizes); {
		end := begin
		sum := new(big.Int)
		for end < len(sizes) && sum.Add(sum, big.NewInt(int64(sizes[end]))).Cmp(big.NewInt(int64(room))) <= 0 {
			end++
		}
		l = append(l, end)
		begin = end
	}
	return l
}

func TestCutOfTheDocument(t *testing.T) {
	wantCut(t, []int{3, 3, 3}, 7, 2, 3)
	wantCut(t, []int{9}, 7)
}

func TestCutAtTheEdges(t *testing.T) {
	wantCut(t, nil, 7)
	wantCut(t, []int{}, 0)
	wantCut(t, []int{7}, 7, 1)
	wantCut(t, []int{7, 7, 7}, 7, 1, 2, 3)
	wantCut(t, []int{3, 4, 7}, 7, 2, 3)
	wantCut(t, []int{3, 5, 2, 5}, 7, 1, 3, 4)
	wantCut(t, []int{0}, 0, 1)
	wantCut(t, []int{0, 0, 0}, 0, 3)
	wantCut(t, []int{7, 0, 0, 7, 0}, 7, 3, 5)
	wantCut(t, []int{0, 7, 0, 1}, 7, 3, 4)
	wantCut(t, []int{1, 2, 8}, 7)
	wantCut(t, []int{8, 1, 2}, 7)
	wantCut(t, []int{1, -1, 2}, 7)
	wantCut(t, []int{1, 2, -1}, 7)
	wantCut(t, []int{0}, -1)
	wantCut(t, []int{-1}, -1)
	wantCut(t, []int{-2, -1}, -1)
	wantCut(t, nil, -1)
}

func TestCutDoesNotOverflow(t *testing.T) {
	edges := []int{math.MinInt, -1, 0, 1, math.MaxInt/2 + 1, math.MaxInt - 1, math.MaxInt}
	for _, room := range edges {
		for _, a := range edges {
			for _, b := range edges {
				for _, c := range edges {
					sizes := []int{a, b, c}
					wantCut(t, sizes, room, ends(sizes, room)...)
				}
			}
		}
	}
}

func TestCutOfAllSmallLists(t *testing.T) {
	lists := [][]int{nil}
	for begin := 0; len(lists[begin]) < 5; begin++ {
		for n := -1; n <= 4; n++ {
			lists = append(lists, append(slices.Clone(lists[begin]), n))
		}
	}
	for _, sizes := range lists {
		for room := -2; room <= 9; room++ {
			wantCut(t, sizes, room, ends(sizes, room)...)
		}
	}
}

func TestCutLeavesItsArgumentAlone(t *testing.T) {
	sizes := spare([]int{3, 3, 3}, 99)
	got := build.Cut(sizes, 7)
	for i := range got[:cap(got)] {
		got[:cap(got)][i] = -5
	}
	if all := sizes[:cap(sizes)]; !slices.Equal(all[:6], []int{3, 3, 3, 99, 99, 99}) {
		t.Error(all)
	}
	wantCut(t, sizes, 7, 2, 3)
}

// told are the sizes of items, to tell which of them a part has.
func told(l []api.Item) []int {
	var sizes []int
	for _, i := range l[:min(60, len(l))] {
		sizes = append(sizes, len(itemRecord(i).bytes))
	}
	return sizes
}

func wantLeaves(t *testing.T, size int, l []api.Item) {
	t.Helper()
	var records []record
	for _, i := range l {
		records = append(records, itemRecord(i))
	}
	want := lengths(grouped(records, size-24))
	got, e := build.Leaves(size, l)
	if e != api.OK || !slices.Equal(lengths(got), want) || !slices.Equal(slices.Concat(got...), l) {
		t.Errorf("Leaves of size %d, items of %d bytes: %d, %d, not %d", size, told(l), lengths(got), e, want)
	}
}

func wantNoLeaves(t *testing.T, size int, l []api.Item, want api.Errno) {
	t.Helper()
	if got, e := build.Leaves(size, l); len(got) != 0 || e != want {
		t.Errorf("Leaves of size %d, items of %d bytes: %d, %d, not %d", size, told(l), lengths(got), e, want)
	}
}

func wantBranches(t *testing.T, size int, l []api.Fork) {
	t.Helper()
	var records []record
	for _, f := range l {
		records = append(records, forkRecord(f))
	}
	want := lengths(grouped(records, size-24))
	got, e := build.Branches(size, l)
	if e != api.OK || !slices.Equal(lengths(got), want) || !slices.Equal(slices.Concat(got...), l) {
		t.Errorf("Branches of size %d, %d forks: %d, %d, not %d", size, len(l), lengths(got), e, want)
	}
}

func wantNoBranches(t *testing.T, size int, l []api.Fork) {
	t.Helper()
	if got, e := build.Branches(size, l); len(got) != 0 || e != api.ErrArg {
		t.Errorf("Branches of size %d, %d forks: %d, %d", size, len(l), lengths(got), e)
	}
}

// someItems are valid items that fit, each kind of them at its edges.
func someItems(size, count int) []api.Item {
	var l []api.Item
	longest := min(255, size-24-43) // beside a key of 40 bytes
	for i := range count {
		key := keyed(i, 6+(i*7)%35)
		switch i % 6 {
		case 0:
			l = append(l, in(key, text(i%20)))
		case 1:
			l = append(l, over(key, 1+i%4096, uint32(2+i)))
		case 2:
			l = append(l, in(key, text(longest)))
		case 3:
			l = append(l, in(key, ""))
		case 4:
			l = append(l, over(key, 4096, math.MaxInt32))
		case 5:
			l = append(l, over(key, 1, 2))
		}
	}
	return l
}

func someForks(count int) []api.Fork {
	var l []api.Fork
	children := []uint32{2, 3, 1 << 20, math.MaxInt32}
	for i := range count {
		l = append(l, fork(keyed(i, 6+(i*11)%35), children[i%4]))
	}
	if count > 0 {
		l[0].Key = ""
	}
	return l
}

func TestPartsOfItemsAndForks(t *testing.T) {
	for _, size := range goodSizes {
		for count := 1; count < 90; count++ {
			wantLeaves(t, size, someItems(size, count))
			wantBranches(t, size, someForks(count))
		}
		wantLeaves(t, size, someItems(size, 5000))
		wantBranches(t, size, someForks(5000))
	}
}

// filledItems are items that take that many bytes, at least 9.
func filledItems(bytes int) []api.Item {
	var l []api.Item
	for i := range bytes / 9 {
		l = append(l, in(keyed(i, 6), ""))
	}
	l[len(l)-1].Value = text(bytes % 9)
	return l
}

// filledForks are forks that take that many bytes, at least 11.
func filledForks(bytes int) []api.Fork {
	var l []api.Fork
	for i := range bytes / 11 {
		l = append(l, fork(keyed(i, 6), 9))
	}
	l[len(l)-1].Key += strings.Repeat("k", bytes%11)
	return l
}

func TestPartsThatAreJustFull(t *testing.T) {
	for _, size := range goodSizes {
		for _, bytes := range []int{size - 24, 2 * (size - 24), 3 * (size - 24)} {
			for more := -30; more <= 30; more++ {
				wantLeaves(t, size, filledItems(bytes+more))
				wantBranches(t, size, filledForks(bytes+more))
			}
		}
	}
	for bytes := 11; bytes < 1000; bytes++ {
		wantLeaves(t, 128, filledItems(bytes))
		wantBranches(t, 128, filledForks(bytes))
	}
	if l, _ := build.Leaves(128, filledItems(104)); len(l) != 1 {
		t.Error(l)
	}
	if l, _ := build.Leaves(128, filledItems(105)); len(l) != 2 {
		t.Error(l)
	}
	if l, _ := build.Branches(128, filledForks(104)); len(l) != 1 {
		t.Error(l)
	}
	if l, _ := build.Branches(128, filledForks(105)); len(l) != 2 {
		t.Error(l)
	}
}

func TestPartsOfOne(t *testing.T) {
	for _, size := range goodSizes {
		wantLeaves(t, size, []api.Item{in("", "")})
		wantLeaves(t, size, []api.Item{over("", 1, 2)})
		wantLeaves(t, size, []api.Item{over(strings.Repeat("k", 40), 4096, math.MaxInt32)})
		wantBranches(t, size, []api.Fork{fork("", 2)})
		wantBranches(t, size, []api.Fork{fork(strings.Repeat("k", 40), math.MaxInt32)})
	}
}

func TestNoPartsOfASizeThatIsNotGood(t *testing.T) {
	for _, size := range wrongSizes {
		wantNoLeaves(t, size, []api.Item{in("k", "v")}, api.ErrArg)
		wantNoLeaves(t, size, nil, api.ErrArg)
		wantNoLeaves(t, size, []api.Item{in("k", text(255))}, api.ErrArg)
		wantNoBranches(t, size, []api.Fork{fork("k", 2)})
		wantNoBranches(t, size, nil)
	}
}

func TestNoPartsOfNothing(t *testing.T) {
	for _, size := range goodSizes {
		wantNoLeaves(t, size, nil, api.ErrArg)
		wantNoLeaves(t, size, []api.Item{}, api.ErrArg)
		wantNoBranches(t, size, nil)
		wantNoBranches(t, size, []api.Fork{})
	}
}

// wrongItems are items that are not valid, each for one reason.
func wrongItems(key string) []api.Item {
	long := (key + strings.Repeat("k", 41))[:41]
	return []api.Item{
		in(long, "v"),
		over(long, 5, 9),
		in(key+strings.Repeat("k", 5000), "v"),
		in(key, text(256)),
		in(key, text(4096)),
		in(key, text(5000)),
		{Key: key, Value: "v", Len: 1},
		{Key: key, Value: "v", Len: -1},
		{Key: key, Value: "v", Head: 2},
		{Key: key, Over: true, Len: 5, Head: 9, Value: "v"},
		{Key: key, Over: true, Len: 5, Head: 9, Value: text(5000)},
		over(key, 0, 9),
		over(key, -1, 9),
		over(key, 4097, 9),
		over(key, math.MaxInt, 9),
		over(key, math.MinInt, 9),
		over(key, 5, 0),
		over(key, 5, 1),
		over(key, 5, 1<<31),
		over(key, 5, math.MaxUint32),
	}
}

func wrongForks(key string) []api.Fork {
	return []api.Fork{
		fork((key + strings.Repeat("k", 41))[:41], 9),
		fork(key+strings.Repeat("k", 5000), 9),
		fork(key, 0),
		fork(key, 1),
		fork(key, 1<<31),
		fork(key, math.MaxUint32),
	}
}

// What is wrong counts wherever it is: also at the ends of parts, and after an item that is too long.
func TestNoPartsOfWhatIsNotValid(t *testing.T) {
	for _, size := range goodSizes {
		for _, count := range []int{1, 2, 30, 700} {
			l, m := someItems(size, count), someForks(count)
			for at := 0; at < count; at += 1 + count/60 {
				for _, wrong := range wrongItems(l[at].Key) {
					wantNoLeaves(t, size, slices.Concat(l[:at], []api.Item{wrong}, l[at+1:]), api.ErrArg)
				}
				for _, wrong := range wrongForks(m[at].Key) {
					wantNoBranches(t, size, slices.Concat(m[:at], []api.Fork{wrong}, m[at+1:]))
				}
			}
			for at := 1; at < count; at++ {
				wantNoLeaves(t, size, slices.Insert(slices.Clone(l), at, l[at-1]), api.ErrArg)
				wantNoLeaves(t, size, slices.Concat(l[:at-1], []api.Item{l[at], l[at-1]}, l[at+1:]), api.ErrArg)
				wantNoBranches(t, size, slices.Insert(slices.Clone(m), at, m[at-1]))
				wantNoBranches(t, size, slices.Concat(m[:at-1], []api.Fork{m[at], m[at-1]}, m[at+1:]))
				if count == 700 && at%9 != 0 && at < 690 {
					at += 5
				}
			}
		}
	}
}

// Items that are valid, but have no room, are the only ones that are too long; whether they are valid is asked first.
func TestItemsThatAreTooLong(t *testing.T) {
	for _, size := range []int{128, 192, 256, 320} {
		for length := range 256 {
			for _, key := range []string{"", "k", strings.Repeat("k", 40)} {
				l := []api.Item{in(key, text(length)), in("x", "1"), in("y", "2")}
				if 3+len(key)+length <= size-24 {
					wantLeaves(t, size, l)
					continue
				}
				wantNoLeaves(t, size, l, api.ErrLong)
				wantNoLeaves(t, size, l[:1], api.ErrLong)
				last := ("y" + key)[:max(1, len(key))]
				wantNoLeaves(t, size, []api.Item{in("", ""), in("x", "1"), in(last, text(length))}, api.ErrLong)
				wantNoLeaves(t, size, append(l, in("x", "3")), api.ErrArg)
				wantNoLeaves(t, size, append(l, in("z", text(256))), api.ErrArg)
				wantNoLeaves(t, size, append([]api.Item{over("", 5, 1)}, l[1:]...), api.ErrArg)
			}
		}
	}
	wantNoLeaves(t, 128, []api.Item{in("a", "1"), in("b", text(101))}, api.ErrLong)
	wantLeaves(t, 128, []api.Item{in("a", "1"), in("b", text(100))})
}

func TestPartsAreNewMemory(t *testing.T) {
	l := spare(someItems(128, 40), in("rest", "rest"))
	kept := slices.Clone(l[:cap(l)])
	parts, _ := build.Leaves(128, l)
	wantApart(t, parts, in("other", ""))
	if !slices.Equal(l[:cap(l)], kept) {
		t.Error("items changed")
	}
	m := spare(someForks(40), fork("rest", 7))
	others := slices.Clone(m[:cap(m)])
	forks, _ := build.Branches(128, m)
	wantApart(t, forks, fork("other", 3))
	if !slices.Equal(m[:cap(m)], others) {
		t.Error("forks changed")
	}
}

// wantApart changes all memory of one part after the other, and asks whether another part changes.
func wantApart[T comparable](t *testing.T, parts [][]T, other T) {
	t.Helper()
	if len(parts) < 3 {
		t.Fatal(len(parts))
	}
	for i := range parts {
		var kept [][]T
		for _, part := range parts {
			kept = append(kept, slices.Clone(part))
		}
		all := parts[i][:cap(parts[i])]
		for k := range all {
			all[k] = other
		}
		for k := range parts {
			if k != i && !slices.Equal(parts[k], kept[k]) {
				t.Errorf("part %d changed with %d", k, i)
			}
		}
	}
}

// Whatever the items and forks are, they are put together again, or told to be wrong.
func FuzzParts(f *testing.F) {
	f.Add(128, "a\x01b", 17, uint32(2), 0)
	f.Add(4096, "", 0, uint32(0), -1)
	f.Add(192, "aabbcc", 255, uint32(math.MaxUint32), math.MaxInt)
	f.Fuzz(func(t *testing.T, size int, keys string, length int, head uint32, room int) {
		var l []api.Item
		var m []api.Fork
		var sizes []int
		for i := range len(keys) {
			l = append(l, in(keys[i:min(len(keys), i+1+i%3)], text(min(300, max(0, length-i)))))
			if keys[i]%3 == 0 {
				l[i] = over(l[i].Key, length+i, head)
			}
			m = append(m, fork(l[i].Key, head))
			sizes = append(sizes, int(keys[i])-2)
		}
		if got, e := build.Leaves(size, l); e == api.OK && !slices.Equal(slices.Concat(got...), l) || e != api.OK && len(got) > 0 {
			t.Errorf("%v %d", got, e)
		}
		if got, e := build.Branches(size, m); e == api.OK && !slices.Equal(slices.Concat(got...), m) || e != api.OK && len(got) > 0 {
			t.Errorf("%v %d", got, e)
		}
		wantCut(t, sizes, room, ends(sizes, room)...)
		wantCut(t, sizes, room%500, ends(sizes, room%500)...)
	})
}
