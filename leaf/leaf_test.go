package leaf_test

import (
	"encoding/binary"
	"math"
	"slices"
	"strings"
	"testing"

	"careenage/api"
	"careenage/frame"
	"careenage/leaf"
)

var (
	goodSizes  = []int{128, 192, 256, 1024, 4032, 4096}
	wrongSizes = []int{0, 1, 24, 29, 64, 127, 129, 191, 4095, 4097, 4160, 1<<16 + 128, 1<<32 + 128, -1, -128, math.MinInt, math.MinInt + 128, math.MaxInt, math.MaxInt - 63}
)

func in(key, value string) api.Item {
	return api.Item{Key: key, Value: value}
}

func over(key string, length int, head uint32) api.Item {
	return api.Item{Key: key, Over: true, Len: length, Head: head}
}

// keyed are items with these keys, by turns in place and over.
func keyed(keys ...string) []api.Item {
	var l []api.Item
	for i, key := range keys {
		if i%2 == 0 {
			l = append(l, in(key, strings.Repeat("v", i%3)))
		} else {
			l = append(l, over(key, 1+i%4096, uint32(2+300*i)))
		}
	}
	return l
}

// filled are valid items that take that many bytes, at least 4. Their keys ascend.
func filled(bytes int) []api.Item {
	var l []api.Item
	for i := 0; ; i++ {
		first := string([]byte{byte(i)})
		key := first + strings.Repeat("k", i%40)
		next := in(key, strings.Repeat("\xee", min(200, 60*i)))
		if i%3 == 1 {
			next = over(key, i+1, uint32(i+2))
		}
		if taken(next) > bytes-4 { // too few would be left for another one
			return append(l, in(first, strings.Repeat("w", bytes-4)))
		}
		l = append(l, next)
		bytes -= taken(next)
	}
}

// many are as many valid items as a page of a size has room for.
func many(size int) []api.Item {
	keys, left := []string{""}, size-24-3
	for length := 1; length <= 2; length++ {
		for i := 0; i < 1<<(8*length) && left >= length+3; i++ {
			keys = append(keys, string([]byte{byte(i), byte(i >> 8)}[:length]))
			left -= length + 3
		}
	}
	slices.Sort(keys)
	var l []api.Item
	for _, key := range keys {
		l = append(l, in(key, ""))
	}
	return l
}

// lists are valid items for a size: ordinary ones, and those at the edges.
func lists(size int) [][]api.Item {
	all := [][]api.Item{
		{in("", "")},
		{in("k", "v")},
		{over("", 1, 2)},
		{over("k", 4096, math.MaxInt32)},
		{in("a", "v"), over("b", 300, 9)},
		{over("a", 300, 9), in("b", "v")},
		{over("a", 1, 2), over("b", 255, 256), over("c", 256, 65536), over("d", 4095, 1<<24)},
		{over("a", 0x0102, 0x12345678), over("b", 7, math.MaxInt32-1)},
		{over("a", 5, 9), over("b", 5, 9)}, // the same chain
		{over("a", 5, 7)},                  // its own page
		{in("a", "\x00\x00"), in("b", "\x00")},
		{in("\x00", "\x00")},
		{in("\xff", "\xff")},
		{in("a", "日本\x80\n"), in("ä", "b"), in("\xe4", "")},
		{in(strings.Repeat("k", 40), "v")},
		{over(strings.Repeat("k", 40), 17, 3)},
		{in("", "a"), in(strings.Repeat("\xff", 40), "b")},
		{in("a", strings.Repeat("v", min(255, size/8)))},
		{in("a", strings.Repeat("v", min(255, size-28)))}, // more than is stored in place
		{in("", strings.Repeat("\x00", min(255, size-27)))},
		keyed("a", "ab", "abc", "b"),
		keyed("A", "B", "Z", "a", "b"),
		keyed("", "\x00", "\x00\x00", "\x01", "\x7f", "\x80", "\xff", "\xff\x00"),
		filled(4),
		filled(5),
		filled(size - 24),
		filled(size - 25),
		many(size),
	}
	if size >= 1024 {
		all = append(all, []api.Item{in("a", strings.Repeat("v", 254)), in("b", strings.Repeat("v", 255)), over("c", 1, 2), in("d", strings.Repeat("\x00", 255))})
	}
	return all
}

// wrongItems are items that are not valid, each for one reason. All of them can be laid out.
func wrongItems(key string) []api.Item {
	return []api.Item{
		over(key, 0, 9),
		over(key, 4097, 9),
		over(key, 1<<16, 9),
		over(key, 1<<31, 9),
		over(key, 1<<32-1, 9),
		over(key, 5, 0),
		over(key, 5, 1),
		over(key, 5, 1<<31),
		over(key, 5, 1<<31+2),
		over(key, 5, math.MaxUint32),
		over(key, 0, 0),
	}
}

// untoldItems are items that are not valid, each for one reason. What they have wrong is not in a layout.
func untoldItems(key string) []api.Item {
	all := []api.Item{
		over(key, -1, 9),
		over(key, 1<<32+5, 9),
		over(key, 1<<32, 9),
		over(key, math.MinInt, 9),
		over(key, math.MaxInt, 9),
		{Key: key, Over: true, Len: 5, Head: 9, Value: "v"},
		{Key: key, Over: true, Len: 5, Head: 9, Value: "\x00"},
		{Key: key, Value: strings.Repeat("v", 256)},
		{Key: key, Value: strings.Repeat("v", 257)},
		{Key: key, Value: strings.Repeat("v", 512)},
		{Key: key, Value: strings.Repeat("\x00", 1<<16)},
	}
	for _, n := range []int{1, -1, 5, 4096, 4097, math.MinInt, math.MaxInt, 1 << 32} {
		all = append(all, api.Item{Key: key, Value: "v", Len: n}, api.Item{Key: key, Len: n}, api.Item{Key: key, Value: "v", Len: n, Head: 9})
	}
	for _, n := range []uint32{1, 2, 9, 1<<31 - 1, 1 << 31, math.MaxUint32} {
		all = append(all, api.Item{Key: key, Value: "v", Head: n}, api.Item{Key: key, Head: n})
	}
	return all
}

// among returns lists in which an item is the only one, the first, the last, or in between.
func among(i api.Item) [][]api.Item {
	return [][]api.Item{{i}, {i, in("zz", "")}, {in("", ""), i}, {in("", "a"), i, over("zz", 5, 9)}}
}

// wrongLists are items that are not valid, or that do not fit a size, each for one reason. All of them can be laid out.
func wrongLists(size int) [][]api.Item {
	all := [][]api.Item{
		nil,
		{},
		{in("a", "v"), in("a", "w")},
		{in("a", "v"), over("a", 5, 9)},
		{over("a", 5, 9), over("a", 5, 9)},
		keyed("", ""),
		keyed("a", ""),
		keyed("b", "a"),
		keyed("ab", "a"),
		keyed("a", "Z"),
		keyed("\x80", "\x7f"),
		keyed("\x00\x00", "\x00"),
		keyed("a", "c", "b"),
		keyed("a", "b", "a"),
		keyed("a", "b", "b"),
		keyed("", "a", "b", ""),
		filled(size - 23),
		filled(size - 22),
		filled(size),
		filled(2*size - 48),
		filled(2 * size),
		append(many(size), in("\xff\xff\xff", "")),
	}
	for _, i := range wrongItems("k") {
		all = append(all, among(i)...)
	}
	for _, length := range []int{41, 42, 80, 99, 100, 255} {
		key := strings.Repeat("k", length)
		all = append(all, among(in(key, "v"))...)
		all = append(all, among(over(key, 5, 9))...)
	}
	return all
}

// taken is what an item takes in a body.
func taken(i api.Item) int {
	if i.Over {
		return len(i.Key) + 10
	}
	return len(i.Key) + len(i.Value) + 3
}

func total(l []api.Item) int {
	n := 0
	for _, i := range l {
		n += taken(i)
	}
	return n
}

// told returns what the page of items says, whether they are valid or not, laid out a second time by Go's library. Its body has the length for the page size, if what it says has room.
func told(size int, n uint32, tx uint64, l []api.Item) api.Page {
	var b []byte
	for _, i := range l {
		if i.Over {
			b = append(b, 1, byte(len(i.Key)))
			b = append(b, i.Key...)
			b = binary.LittleEndian.AppendUint32(b, uint32(i.Len))
			b = binary.LittleEndian.AppendUint32(b, i.Head)
		} else {
			b = append(b, 0, byte(len(i.Key)))
			b = append(b, i.Key...)
			b = append(b, byte(len(i.Value)))
			b = append(b, i.Value...)
		}
	}
	body := string(b) + strings.Repeat("\x00", max(size-24-len(b), 0))
	return api.Page{Kind: 4, Count: len(l), Page: n, Tx: tx, Body: body}
}

func wantPage(t *testing.T, size int, n uint32, tx uint64, l []api.Item, want api.Page) {
	t.Helper()
	given := slices.Clone(l)
	if p, e := leaf.Page(size, n, tx, l); p != want || e != api.OK {
		t.Errorf("Page of size %d, %d, %d, %+v:\n%+v %d, not\n%+v", size, n, tx, l, p, e, want)
	}
	if !slices.Equal(l, given) {
		t.Fatalf("Page changed %+v to %+v", given, l)
	}
}

func wantNoPage(t *testing.T, size int, n uint32, tx uint64, l []api.Item) {
	t.Helper()
	given := slices.Clone(l)
	if p, e := leaf.Page(size, n, tx, l); p != (api.Page{}) || e != api.ErrArg {
		t.Errorf("Page of size %d, %d, %d, %+v: %+v %d", size, n, tx, l, p, e)
	}
	if !slices.Equal(l, given) {
		t.Fatalf("Page changed %+v to %+v", given, l)
	}
}

func wantItems(t *testing.T, p api.Page, want []api.Item) {
	t.Helper()
	if l, e := leaf.Of(p); !slices.Equal(l, want) || e != api.OK {
		t.Errorf("Of %+v:\n%+v %d, not\n%+v", p, l, e, want)
	}
}

func wantNoItems(t *testing.T, p api.Page) {
	t.Helper()
	if l, e := leaf.Of(p); len(l) != 0 || e != api.ErrBad {
		t.Errorf("Of %+v: %+v %d", p, l, e)
	}
}

// P8.1

func TestIn(t *testing.T) {
	for size := -300; size <= 9000; size++ {
		eighth := int(math.Floor(float64(size) / 8))
		for _, n := range []int{-1, 0, 1, eighth - 1, eighth, eighth + 1, 254, 255, 256, 257, size} {
			if got, want := leaf.In(size, n), n >= 0 && n <= eighth && n <= 255; got != want {
				t.Errorf("%d bytes in size %d: %v", n, size, got)
			}
		}
	}
	for _, size := range goodSizes {
		for n := -5; n < 5000; n++ {
			if got, want := leaf.In(size, n), n >= 0 && n <= min(size/8, 255); got != want {
				t.Errorf("%d bytes in size %d: %v", n, size, got)
			}
		}
	}
}

func TestInAtTheEdges(t *testing.T) {
	tests := []struct {
		size, n int
		want    bool
	}{
		{128, 0, true},
		{128, 16, true},
		{128, 17, false},
		{192, 24, true},
		{192, 25, false},
		{1984, 248, true},
		{1984, 249, false},
		{2048, 255, true},
		{2048, 256, false},
		{4096, 255, true},
		{4096, 256, false},
		{4096, 512, false},
		{128, -1, false},
		{4096, -256, false},
		{math.MaxInt, 255, true},
		{math.MaxInt, 256, false},
		{math.MaxInt, math.MaxInt, false},
		{math.MaxInt, math.MaxInt/8 + 1, false},
		{128, 1 << 61, false},
		{128, math.MaxInt, false},
		{128, math.MinInt, false},
		{math.MinInt, 0, false},
		{math.MinInt, math.MinInt, false},
	}
	for _, c := range tests {
		if got := leaf.In(c.size, c.n); got != c.want {
			t.Errorf("%d bytes in size %d: %v", c.n, c.size, got)
		}
	}
}

func TestSize(t *testing.T) {
	tests := []struct {
		l    []api.Item
		want int
	}{
		{nil, 0},
		{[]api.Item{}, 0},
		{[]api.Item{in("k", "v")}, 5},
		{[]api.Item{in("", "")}, 3},
		{[]api.Item{over("", 5, 9)}, 10},
		{[]api.Item{over("k", 4096, 9)}, 11},
		{[]api.Item{in("a", "v"), over("b", 300, 9)}, 16},
		{[]api.Item{in("b", ""), in("a", "v"), in("b", "")}, 13},
		{[]api.Item{in("ä", "日")}, 8},
		{[]api.Item{in(strings.Repeat("k", 41), strings.Repeat("v", 256))}, 300},
		{[]api.Item{in(strings.Repeat("k", 300), strings.Repeat("v", 5000))}, 5303},
		{[]api.Item{{Over: true}}, 10},
		{[]api.Item{{Over: true, Value: "not counted", Len: -1, Head: 1}}, 10},
		{[]api.Item{{Key: "a", Len: math.MaxInt, Head: math.MaxUint32}}, 4},
		{make([]api.Item, 70000), 210000},
	}
	for _, c := range tests {
		if got := leaf.Size(c.l); got != c.want {
			t.Errorf("%d items: %d, not %d", len(c.l), got, c.want)
		}
	}
	for bytes := 4; bytes < 5000; bytes++ {
		if got := leaf.Size(filled(bytes)); got != bytes {
			t.Errorf("%d, not %d", got, bytes)
		}
	}
}

func TestPageLaysOutTheItems(t *testing.T) {
	l := []api.Item{in("", "xyz"), over("ab", 0x0102, 0x01020304), in("b", "")}
	body := "\x00\x00" + "\x03xyz" + "\x01\x02ab" + "\x02\x01\x00\x00" + "\x04\x03\x02\x01" + "\x00\x01b" + "\x00" + strings.Repeat("\x00", 82)
	p := api.Page{Kind: 4, Count: 3, Page: 7, Link: 0, Tx: 5, Body: body}
	wantPage(t, 128, 7, 5, l, p)
	wantItems(t, p, l)
}

func TestPageOfValidItems(t *testing.T) {
	for _, size := range goodSizes {
		for _, l := range lists(size) {
			if total(l) > size-24 {
				t.Fatalf("size %d: %+v do not fit", size, l)
			}
			wantPage(t, size, 7, 5, l, told(size, 7, 5, l))
			wantItems(t, told(size, 7, 5, l), l)
		}
	}
}

func TestPageOfWrongItems(t *testing.T) {
	for _, size := range goodSizes {
		for _, l := range wrongLists(size) {
			wantNoPage(t, size, 7, 5, l)
			wantNoPage(t, size, 2, 0, l)
		}
		for _, i := range untoldItems("k") {
			for _, l := range among(i) {
				wantNoPage(t, size, 7, 5, l)
			}
		}
		for _, length := range []int{256, 257, 296, 1 << 16, 1 << 20} {
			for _, i := range []api.Item{in(strings.Repeat("k", length), ""), over(strings.Repeat("k", length), 5, 9)} {
				for _, l := range among(i) {
					wantNoPage(t, size, 7, 5, l)
				}
			}
		}
	}
}

func TestPageOfNumbersAndTransactions(t *testing.T) {
	numbers := map[uint32]bool{0: false, 1: false, 2: true, 3: true, 256: true, 65537: true, 1<<31 - 2: true, 1<<31 - 1: true, 1 << 31: false, 1<<31 + 2: false, math.MaxUint32: false}
	txs := map[uint64]bool{0: true, 1: true, 1 << 32: true, 1<<53 + 1: true, 1<<62 - 1: true, 1 << 62: true, 1<<62 + 1: false, 1 << 63: false, math.MaxUint64: false}
	for _, size := range goodSizes {
		for _, l := range [][]api.Item{{in("", "")}, {over("a", 300, 9)}, keyed("", "b", "d"), filled(size - 24)} {
			for n, good := range numbers {
				for tx, right := range txs {
					p := told(size, n, tx, l)
					if good && right {
						wantPage(t, size, n, tx, l, p)
						wantItems(t, p, l)
					} else {
						wantNoPage(t, size, n, tx, l)
						wantNoItems(t, p)
					}
				}
			}
		}
	}
}

func TestPageOfEachSize(t *testing.T) {
	for size := -200; size <= 9000; size++ {
		good := size >= 128 && size <= 4096 && size%64 == 0
		for _, l := range [][]api.Item{{in("", "")}, keyed("a", "b")} {
			p := told(size, 7, 5, l)
			if good {
				wantPage(t, size, 7, 5, l, p)
				wantItems(t, p, l)
			} else {
				wantNoPage(t, size, 7, 5, l)
				wantNoItems(t, p)
			}
		}
	}
	for _, size := range wrongSizes {
		for _, l := range [][]api.Item{nil, {in("", "")}, keyed("a", "b")} {
			wantNoPage(t, size, 7, 5, l)
		}
	}
}

// Of each size, items take all the room, or some bytes less or more.
func TestWhatFits(t *testing.T) {
	for size := 128; size <= 4096; size += 64 {
		for less := range 50 {
			l := filled(size - 24 - less)
			wantPage(t, size, 7, 5, l, told(size, 7, 5, l))
			wantItems(t, told(size, 7, 5, l), l)
		}
		for more := 1; more < 50; more++ {
			l := filled(size - 24 + more)
			wantNoPage(t, size, 7, 5, l)
			wantNoItems(t, told(size, 7, 5, l))
		}
	}
}

func TestValuesOfEachLength(t *testing.T) {
	for length := range 600 {
		l := []api.Item{in("k", strings.Repeat("v", length))}
		if length > 255 {
			wantNoPage(t, 4096, 7, 5, l)
		} else {
			wantPage(t, 4096, 7, 5, l, told(4096, 7, 5, l))
			wantItems(t, told(4096, 7, 5, l), l)
		}
	}
	for length := range 5000 {
		l := []api.Item{over("k", length, 9)}
		if length < 1 || length > 4096 {
			wantNoPage(t, 128, 7, 5, l)
			wantNoItems(t, told(128, 7, 5, l))
		} else {
			wantPage(t, 128, 7, 5, l, told(128, 7, 5, l))
			wantItems(t, told(128, 7, 5, l), l)
		}
	}
}

func TestKeysOfEachLength(t *testing.T) {
	for length := range 256 {
		key := strings.Repeat("k", length)
		for _, l := range [][]api.Item{{in(key, "v")}, {over(key, 5, 9)}} {
			p := told(512, 7, 5, l)
			if length > 40 {
				wantNoPage(t, 512, 7, 5, l)
				wantNoItems(t, p)
			} else {
				wantPage(t, 512, 7, 5, l, p)
				wantItems(t, p, l)
			}
		}
	}
}

func TestOfOfWrongItems(t *testing.T) {
	for _, size := range goodSizes {
		for _, l := range wrongLists(size) {
			wantNoItems(t, told(size, 7, 5, l))
		}
	}
}

func TestOfOfWrongHeaders(t *testing.T) {
	for _, size := range goodSizes {
		for _, l := range lists(size) {
			wrong := func(change func(*api.Page)) {
				p := told(size, 7, 5, l)
				change(&p)
				wantNoItems(t, p)
			}
			for _, kind := range []int{0, -1, 1, 2, 3, 5, 6, 7, 260, 1<<32 + 4, math.MinInt, math.MaxInt} {
				wrong(func(p *api.Page) { p.Kind = kind })
			}
			for _, n := range []uint32{1, 2, 7, 8, 1 << 31, math.MaxUint32} {
				wrong(func(p *api.Page) { p.Link = n })
			}
			for _, n := range []uint32{0, 1, 1 << 31, 1<<31 + 7, math.MaxUint32} {
				wrong(func(p *api.Page) { p.Page = n })
			}
			for _, tx := range []uint64{1<<62 + 1, 1 << 63, 1<<63 + 5, math.MaxUint64} {
				wrong(func(p *api.Page) { p.Tx = tx })
			}
			for _, count := range []int{-1, 0, 65535, 65536, 65536 + len(l), 1<<32 + len(l), math.MinInt, math.MaxInt, len(l) - 1, len(l) + 1, -len(l), -len(l) - 1} {
				wrong(func(p *api.Page) { p.Count = count })
			}
		}
	}
}

// A body with more or less room is one of another size, which is good or not, and in which the items fit or not.
func TestOfOfOtherLengths(t *testing.T) {
	for _, size := range []int{128, 192, 1024, 4096} {
		for _, l := range [][]api.Item{{in("k", "v")}, keyed("a", "b"), {over("k", 5, 9)}, filled(size - 24)} {
			p := told(size, 7, 5, l)
			for length := range 4300 {
				q := p
				q.Body = p.Body[:min(length, len(p.Body))] + strings.Repeat("\x00", max(length-len(p.Body), 0))
				other := length + 24
				good := other >= 128 && other <= 4096 && other%64 == 0
				if good && length >= total(l) {
					wantItems(t, q, l)
				} else {
					wantNoItems(t, q)
				}
			}
		}
	}
	for _, p := range []api.Page{{}, {Kind: 4, Page: 2}, {Kind: 4, Page: 2, Count: 1}, {Kind: 4, Page: 2, Count: math.MaxInt}, {Kind: 4, Page: 2, Count: math.MaxInt32, Body: strings.Repeat("\x00", 1<<20)}} {
		wantNoItems(t, p)
	}
}

// Bodies that end within an item, whichever part of it.
func TestOfOfBodiesThatEndEarly(t *testing.T) {
	next := []string{
		"\x00\x28" + strings.Repeat("\xfe", 40) + "\x05value",
		"\x01\x28" + strings.Repeat("\xfe", 40) + "\x05\x00\x00\x00\x09\x00\x00\x00",
		"\x00\x01\xfe\x01v",
		"\x00\x01\xfe\x00",
		"\x01\x01\xfe\x01\x00\x00\x00\x02\x00\x00\x00",
		"\x00\x02\xfe\xfe\xff" + strings.Repeat("v", 90),
		"\x00\xff" + strings.Repeat("\xfe", 90),
		"\x02\x01\xfe\x01v",
	}
	for _, size := range goodSizes {
		for _, item := range next {
			for last := range len(item) {
				p := told(size, 7, 5, filled(size-24-last))
				p.Body = p.Body[:size-24-last] + item[:last]
				for range 3 {
					p.Count++
					wantNoItems(t, p)
				}
			}
		}
	}
}

func TestOfOfOtherKindsOfValues(t *testing.T) {
	for _, size := range goodSizes {
		for _, l := range [][]api.Item{{in("k", "v")}, {over("k", 5, 9)}, {in("", "")}, {over("", 1, 2)}} {
			for kind := 2; kind < 256; kind++ {
				p := told(size, 7, 5, l)
				p.Body = string([]byte{byte(kind)}) + p.Body[1:]
				wantNoItems(t, p)
				p = told(size, 7, 5, []api.Item{in("", "a"), in("k", "v")})
				p.Body = p.Body[:4] + string([]byte{byte(kind)}) + p.Body[5:]
				wantNoItems(t, p)
			}
		}
	}
}

func TestOfOfWrongBodies(t *testing.T) {
	for _, size := range goodSizes {
		for _, count := range []int{0, 2, 5, 814, 65535, math.MaxInt} {
			for _, c := range []string{"\x00", "\x01", "\x02", "\x28", "a", "\xff"} {
				wantNoItems(t, api.Page{Kind: 4, Count: count, Page: 7, Tx: 5, Body: strings.Repeat(c, size-24)})
			}
		}
		p := told(size, 7, 5, []api.Item{in("a", "v"), over("b", 300, 9)})
		for _, body := range []string{p.Body[1:] + "\x00", "\x00" + p.Body[1:size-25] + "\x01", p.Body[:5] + "\x00" + p.Body[5:size-25], p.Body[5:16] + p.Body[:5] + p.Body[16:]} {
			q := p
			q.Body = body
			wantNoItems(t, q)
		}
	}
}

// A change after the items makes no page of any; one within them may, but then of others.
func TestEachByteOfTheBodyCounts(t *testing.T) {
	for _, size := range []int{128, 256, 4096} {
		l := []api.Item{in("", "x"), over("ab", 300, 0x112233), in("c", "yz"), over("d", 4096, math.MaxInt32)}
		p := told(size, 7, 5, l)
		for i := range p.Body {
			for _, turn := range []byte{1, 2, 16, 128, 255} {
				b := []byte(p.Body)
				b[i] ^= turn
				q := p
				q.Body = string(b)
				got, e := leaf.Of(q)
				if i >= total(l) {
					wantNoItems(t, q)
				} else if slices.Equal(got, l) || e == api.OK && told(size, 7, 5, got) != q {
					t.Errorf("size %d: byte %d turned by %d does not count: %+v", size, i, turn, got)
				}
			}
		}
	}
}

func TestOfReturnsNewItems(t *testing.T) {
	p := told(128, 7, 5, keyed("a", "b"))
	l, _ := leaf.Of(p)
	for i := range l[:cap(l)] {
		l[:cap(l)][i] = in("changed", "too")
	}
	wantItems(t, p, keyed("a", "b"))
}

// P8.2

// found returns what Find is to return.
func found(l []api.Item, key string) (int, bool) {
	for i := range l {
		switch strings.Compare(l[i].Key, key) {
		case 0:
			return i, true
		case 1:
			return i, false
		}
	}
	return len(l), false
}

var sought = []string{"", "\x00", "A", "a", "a\x00", "ab", "b", "c", "d", "k", "m", "z", "\x80", "\xff", "\xff\xff", strings.Repeat("k", 40), strings.Repeat("k", 41), strings.Repeat("z", 300)}

// anyLists are all lists of up to 5 items with some keys, in whichever order, and further ones, valid or not.
func anyLists() [][]api.Item {
	all := [][]api.Item{nil}
	for i := 0; i < len(all); i++ {
		if l := all[i]; len(l) < 5 {
			for _, key := range []string{"", "a", "b", "\xff"} {
				all = append(all, append(slices.Clone(l), in(key, "v")))
			}
		}
	}
	for _, size := range goodSizes {
		all = append(all, lists(size)...)
		all = append(all, wrongLists(size)...)
	}
	return all
}

func TestFind(t *testing.T) {
	for _, l := range anyLists() {
		given := slices.Clone(l)
		for _, key := range sought {
			i, is := leaf.Find(l, key)
			if want, wantIs := found(l, key); i != want || is != wantIs {
				t.Errorf("%q in %+v: %d %v, not %d %v", key, l, i, is, want, wantIs)
			}
		}
		if !slices.Equal(l, given) {
			t.Fatalf("Find changed %+v to %+v", given, l)
		}
	}
}

func TestFindOfSomeItems(t *testing.T) {
	tests := []struct {
		l    []api.Item
		key  string
		want int
		is   bool
	}{
		{nil, "", 0, false},
		{nil, "a", 0, false},
		{keyed("", "b", "d"), "", 0, true},
		{keyed("", "b", "d"), "a", 1, false},
		{keyed("", "b", "d"), "b", 1, true},
		{keyed("", "b", "d"), "c", 2, false},
		{keyed("", "b", "d"), "d", 2, true},
		{keyed("", "b", "d"), "d\x00", 3, false},
		{keyed("", "b", "d"), "z", 3, false},
		{keyed("b", "d"), "", 0, false},
		{keyed("b", "d"), "B", 0, false},
		{keyed("a", "ab", "abc"), "ab", 1, true},
		{keyed("a", "ab", "abc"), "aba", 2, false},
		{keyed("a", "ab", "abc"), "b", 3, false},
		{keyed("\x7f", "\x80"), "\x80", 1, true},
		{keyed("\x7f", "\x81"), "\x80", 1, false},
		{keyed("d", "a", "b"), "b", 0, false},
		{keyed("a", "d", "b"), "b", 1, false},
		{keyed("a", "a", "a"), "a", 0, true},
		{keyed("a", "b", "b"), "b", 1, true},
		{keyed("c", "b", "a"), "", 0, false},
	}
	for _, c := range tests {
		if i, is := leaf.Find(c.l, c.key); i != c.want || is != c.is {
			t.Errorf("%q in %+v: %d %v, not %d %v", c.key, c.l, i, is, c.want, c.is)
		}
	}
}

// P8.3

func TestOfOfPageIsTheItems(t *testing.T) {
	for _, size := range goodSizes {
		for _, l := range lists(size) {
			p, e := leaf.Page(size, 9, 11, l)
			if e != api.OK {
				t.Errorf("size %d, %+v: %d", size, l, e)
			}
			wantItems(t, p, l)
			block, e := frame.Put(size, p)
			if e != api.OK {
				t.Errorf("size %d, %+v: its page cannot be put: %d", size, l, e)
			}
			q, e := frame.Get(size, 9, block)
			if q != p || e != api.OK {
				t.Errorf("size %d, %+v: its page is read as %+v %d", size, l, q, e)
			}
		}
	}
}

func TestFindOfTheKeyOfAnItemIsItsIndex(t *testing.T) {
	for _, size := range goodSizes {
		for _, l := range lists(size) {
			for i := range l {
				if got, is := leaf.Find(l, l[i].Key); got != i || !is {
					t.Errorf("%q in %+v: %d %v, not %d", l[i].Key, l, got, is, i)
				}
			}
		}
	}
}

// listOf makes items of bytes: each the kind, the lengths of a key and a value, these, and the numbers of a chain.
func listOf(s string) []api.Item {
	var l []api.Item
	for len(s) >= 11 {
		kind, length, bytes := s[0], int(s[1]%44), int(s[2])
		number, head := binary.LittleEndian.Uint32([]byte(s[3:7])), binary.LittleEndian.Uint32([]byte(s[7:11]))
		s = s[11:]
		key := s[:min(length, len(s))]
		s = s[len(key):]
		value := s[:min(bytes, len(s))]
		switch kind % 4 {
		case 0, 1:
			l = append(l, in(key, value))
			s = s[len(value):]
		case 2:
			l = append(l, over(key, int(number%4100), head))
		default:
			l = append(l, api.Item{Key: key, Value: value, Over: kind >= 128, Len: int(number), Head: head})
		}
	}
	return l
}

func isValid(size int, l []api.Item) bool {
	if size < 128 || size > 4096 || size%64 != 0 || len(l) == 0 {
		return false
	}
	for i, m := range l {
		if len(m.Key) > 40 || i > 0 && strings.Compare(l[i-1].Key, m.Key) >= 0 {
			return false
		}
		if m.Over && (m.Value != "" || m.Len < 1 || m.Len > 4096 || m.Head < 2 || m.Head > 1<<31-1) {
			return false
		}
		if !m.Over && (len(m.Value) > 255 || m.Len != 0 || m.Head != 0) {
			return false
		}
	}
	return total(l) <= size-24
}

func FuzzPage(f *testing.F) {
	f.Add(128, uint32(7), uint64(5), "\x00\x01\x01........kv\x02\x01\x00\x05\x00\x00\x00\x09\x00\x00\x00l", "k", false)
	f.Add(4096, uint32(2), uint64(1<<62), strings.Repeat("\x00\x02\xff........", 60), "", true)
	f.Add(192, uint32(2), uint64(0), "\x03\x00\x00\x00\x00\x00\x00\x00\x00\x00\x00", "", true)
	f.Fuzz(func(t *testing.T, size int, n uint32, tx uint64, s, key string, sorted bool) {
		l := listOf(s)
		if sorted {
			slices.SortFunc(l, func(a, b api.Item) int { return strings.Compare(a.Key, b.Key) })
		}
		i, is := leaf.Find(l, key)
		if want, wantIs := found(l, key); i != want || is != wantIs {
			t.Errorf("%q in %+v: %d %v, not %d %v", key, l, i, is, want, wantIs)
		}
		if got := leaf.Size(l); got != total(l) {
			t.Errorf("%+v: %d", l, got)
		}
		if !isValid(size, l) || n < 2 || n > 1<<31-1 || tx > 1<<62 {
			wantNoPage(t, size, n, tx, l)
			return
		}
		wantPage(t, size, n, tx, l, told(size, n, tx, l))
		wantItems(t, told(size, n, tx, l), l)
	})
}

func FuzzOf(f *testing.F) {
	for _, l := range lists(128) {
		f.Add(4, len(l), uint32(7), uint32(0), uint64(5), told(128, 7, 5, l).Body)
	}
	f.Add(9, -1, uint32(1), uint32(9), uint64(math.MaxUint64), "")
	f.Fuzz(func(t *testing.T, kind, count int, n, link uint32, tx uint64, body string) {
		if len(body) > 0 && len(body) < 104 {
			body += strings.Repeat("\x00", 104-len(body))
		}
		p := api.Page{Kind: kind, Count: count, Page: n, Link: link, Tx: tx, Body: body}
		l, e := leaf.Of(p)
		if e != api.OK {
			wantNoItems(t, p)
			return
		}
		size := len(body) + 24
		if !isValid(size, l) || n < 2 || n > 1<<31-1 || tx > 1<<62 || told(size, n, tx, l) != p {
			t.Errorf("Of %+v: %+v", p, l)
		}
	})
}
