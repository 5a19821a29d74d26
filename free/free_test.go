package free_test

import (
	"encoding/binary"
	"math"
	"math/big"
	"slices"
	"strings"
	"testing"

	"careenage/api"
	"careenage/frame"
	"careenage/free"
)

var (
	goodSizes  = []int{128, 192, 256, 1024, 4032, 4096}
	wrongSizes = []int{0, 1, 23, 24, 25, 28, 29, 64, 127, 129, 132, 191, 4095, 4097, 4160, 1<<16 + 128, 1<<32 + 128, -1, -24, -128, math.MinInt, math.MinInt + 24, math.MinInt + 128, math.MaxInt, math.MaxInt - 63}
)

func isGood(size int) bool {
	return size >= 128 && size <= 4096 && size%64 == 0
}

// most is how many numbers have room in a page of a size.
func most(size int) int {
	if !isGood(size) {
		return 0
	}
	return int(math.Floor(float64(size-24) / 4))
}

// run are numbers from one on, each that much greater than the one before it.
func run(from, step uint32, length int) []uint32 {
	var l []uint32
	for range length {
		l = append(l, from)
		from += step
	}
	return l
}

// lists are valid numbers for a size: ordinary ones, and those at the edges.
func lists(size int) [][]uint32 {
	full := most(size)
	return [][]uint32{
		nil,
		{},
		{2},
		{3},
		{7}, // the page itself
		{8}, // the next page
		{math.MaxInt32},
		{math.MaxInt32 - 1},
		{255, 256, 257},
		{0x01020304},
		{3, 9},
		{2, 3},
		{2, math.MaxInt32},
		{math.MaxInt32 - 1, math.MaxInt32},
		{2, 256, 65536, 1 << 24, 1 << 30},
		{6, 7, 8, 9},
		run(2, 1, full),
		run(2, 1, full-1),
		run(1<<24, 1<<16, full),
		run(math.MaxInt32-uint32(full)+1, 1, full),
	}
}

// wrongLists are numbers that are not valid for a size, each for one reason.
func wrongLists(size int) [][]uint32 {
	full := most(size)
	all := [][]uint32{
		{2, 2},
		{3, 3},
		{3, 2},
		{9, 3},
		{math.MaxInt32, math.MaxInt32},
		{math.MaxInt32, 2},
		{256, 255},
		{65536, 256},
		{0x0201, 0x0102},
		{2, 3, 3},
		{2, 2, 3},
		{2, 4, 3},
		{3, 2, 4},
		{2, 5, 3, 6},
		{2, 3, 4, 2},
		{2, 3, 4, 4},
		append(run(2, 1, full-1), uint32(full)),
		slices.Repeat([]uint32{7}, full),
		run(2, 1, full+1),
		run(2, 1, full+2),
		run(2, 1, full+6), // as many as a block has words
		run(2, 1, 2*full),
		run(2, 1, 65535),
	}
	for _, k := range []uint32{0, 1} {
		all = append(all, []uint32{k}, []uint32{k, 2}, []uint32{k, 7, 9}, append([]uint32{k}, run(2, 1, full-1)...))
	}
	for _, k := range []uint32{1 << 31, 1<<31 + 1, 1<<31 + 9, math.MaxUint32} {
		all = append(all, []uint32{k}, []uint32{2, k}, []uint32{2, 7, k}, append(run(2, 1, full-1), k))
	}
	return append(all, []uint32{0, 1}, []uint32{1, math.MaxUint32}, []uint32{1 << 31, math.MaxUint32})
}

// numbers tell whether there can be a page with them.
var numbers = map[uint32]bool{0: false, 1: false, 2: true, 3: true, 7: true, 256: true, 65537: true, 1<<31 - 2: true, 1<<31 - 1: true, 1 << 31: false, 1<<31 + 2: false, math.MaxUint32: false}

var txs = map[uint64]bool{0: true, 1: true, 1 << 32: true, 1<<53 + 1: true, 1<<62 - 1: true, 1 << 62: true, 1<<62 + 1: false, 1 << 63: false, math.MaxUint64: false}

// told returns what the page of numbers says, whether they are valid or not, laid out a second time by Go's library. Its body has the length for the page size, also if it has no room for all of them.
func told(size int, n, next uint32, tx uint64, l []uint32) api.Page {
	room := max(size-24, 0)
	b := make([]byte, 0, room)
	for _, k := range l {
		b = binary.LittleEndian.AppendUint32(b, k)
	}
	body := (string(b) + strings.Repeat("\x00", max(room-len(b), 0)))[:room]
	return api.Page{Kind: 6, Count: len(l), Page: n, Link: next, Tx: tx, Body: body}
}

func wantPage(t *testing.T, size int, n, next uint32, tx uint64, l []uint32, want api.Page) {
	t.Helper()
	given := slices.Clone(l)
	if p, e := free.Page(size, n, next, tx, l); p != want || e != api.OK {
		t.Errorf("Page of size %d, %d, %d, %d, %d:\n%+v %d, not\n%+v", size, n, next, tx, l, p, e, want)
	}
	if !slices.Equal(l, given) {
		t.Fatalf("Page changed %d to %d", given, l)
	}
}

func wantNoPage(t *testing.T, size int, n, next uint32, tx uint64, l []uint32) {
	t.Helper()
	given := slices.Clone(l)
	if p, e := free.Page(size, n, next, tx, l); p != (api.Page{}) || e != api.ErrArg {
		t.Errorf("Page of size %d, %d, %d, %d, %d: %+v %d", size, n, next, tx, l, p, e)
	}
	if !slices.Equal(l, given) {
		t.Fatalf("Page changed %d to %d", given, l)
	}
}

func wantNumbers(t *testing.T, p api.Page, want []uint32, wantNext uint32) {
	t.Helper()
	if l, next, e := free.Of(p); !slices.Equal(l, want) || next != wantNext || e != api.OK {
		t.Errorf("Of %+v:\n%d %d %d, not\n%d %d", p, l, next, e, want, wantNext)
	}
}

func wantNoNumbers(t *testing.T, p api.Page) {
	t.Helper()
	if l, next, e := free.Of(p); len(l) != 0 || next != 0 || e != api.ErrBad {
		t.Errorf("Of %+v: %d %d %d", p, l, next, e)
	}
}

// wantAll asks that there is a page of these numbers, and that it is read.
func wantAll(t *testing.T, size int, n, next uint32, tx uint64, l []uint32) {
	t.Helper()
	p := told(size, n, next, tx, l)
	wantPage(t, size, n, next, tx, l, p)
	wantNumbers(t, p, l, next)
}

// wantNone asks that there is no page of these numbers, and that what it would be is not read.
func wantNone(t *testing.T, size int, n, next uint32, tx uint64, l []uint32) {
	t.Helper()
	wantNoPage(t, size, n, next, tx, l)
	wantNoNumbers(t, told(size, n, next, tx, l))
}

// P10.1

func TestMost(t *testing.T) {
	for size, want := range map[int]int{128: 26, 192: 42, 256: 58, 1024: 250, 4032: 1002, 4096: 1018} {
		if got := free.Most(size); got != want {
			t.Errorf("%d in size %d, not %d", got, size, want)
		}
	}
	for size := -200; size <= 9000; size++ {
		if got := free.Most(size); got != most(size) {
			t.Errorf("%d in size %d, not %d", got, size, most(size))
		}
	}
	for _, size := range wrongSizes {
		if got := free.Most(size); got != 0 {
			t.Errorf("%d in size %d", got, size)
		}
	}
}

func TestNeed(t *testing.T) {
	tests := []struct{ size, n, want int }{
		{128, 0, 0},
		{128, -1, 0},
		{128, -26, 0},
		{128, -1000, 0},
		{128, math.MinInt, 0},
		{128, math.MinInt + 1, 0},
		{128, 1, 1},
		{128, 25, 1},
		{128, 26, 1},
		{128, 27, 2},
		{128, 52, 2},
		{128, 53, 3},
		{128, 1 << 20, 40330},
		{192, 42, 1},
		{192, 43, 2},
		{4096, 1, 1},
		{4096, 1018, 1},
		{4096, 1019, 2},
		{4096, 1 << 20, 1031},
		{128, 1<<31 - 1, 82595525},
	}
	for _, c := range tests {
		if got := free.Need(c.size, c.n); got != c.want {
			t.Errorf("%d numbers in size %d: %d, not %d", c.n, c.size, got, c.want)
		}
	}
}

func TestNeedOfEachSize(t *testing.T) {
	for size := -200; size <= 9000; size++ {
		for _, n := range []int{math.MinInt, -1, 0, 1, 25, 26, 27, 1018, 1019, 2037} {
			want := 0
			if isGood(size) {
				want = int(math.Ceil(float64(max(n, 0)) / float64(most(size))))
			}
			if got := free.Need(size, n); got != want {
				t.Errorf("%d numbers in size %d: %d, not %d", n, size, got, want)
			}
		}
	}
	for _, size := range wrongSizes {
		for _, n := range []int{math.MinInt, -1, 0, 1, 26, 4096, math.MaxInt} {
			if got := free.Need(size, n); got != 0 {
				t.Errorf("%d numbers in size %d: %d", n, size, got)
			}
		}
	}
}

// Held against integers that do not overflow.
func TestNeedOfGreatNumbers(t *testing.T) {
	for _, size := range goodSizes {
		for less := range 3000 {
			n := math.MaxInt - less
			whole, left := new(big.Int).QuoRem(big.NewInt(int64(n)), big.NewInt(int64(most(size))), new(big.Int))
			if left.Sign() > 0 {
				whole.Add(whole, big.NewInt(1))
			}
			if got := free.Need(size, n); int64(got) != whole.Int64() {
				t.Errorf("%d numbers in size %d: %d, not %d", n, size, got, whole)
			}
		}
	}
}

// rises reports whether each number is above all that stand before it.
func rises(l []uint32) bool {
	for i := range l {
		for _, before := range l[:i] {
			if before >= l[i] {
				return false
			}
		}
	}
	return true
}

// All lists of up to 5 of some numbers, in whichever order, pages or not.
func TestRises(t *testing.T) {
	all := [][]uint32{nil}
	for i := 0; i < len(all); i++ {
		l, given := all[i], slices.Clone(all[i])
		if got := free.Rises(l); got != rises(l) {
			t.Errorf("%d: %v", l, got)
		}
		if !slices.Equal(l, given) {
			t.Fatalf("Rises changed %d to %d", given, l)
		}
		if len(l) == 5 {
			continue
		}
		for _, k := range []uint32{0, 1, 2, 1<<31 - 1, 1 << 31, math.MaxUint32} {
			all = append(all, append(slices.Clone(l), k))
		}
	}
}

func TestRisesOfSomeNumbers(t *testing.T) {
	tests := []struct {
		l    []uint32
		want bool
	}{
		{nil, true},
		{[]uint32{}, true},
		{[]uint32{0}, true},
		{[]uint32{math.MaxUint32}, true},
		{[]uint32{2, 2}, false},
		{[]uint32{0, 0}, false},
		{[]uint32{2, 3}, true},
		{[]uint32{3, 2}, false},
		{[]uint32{0, math.MaxUint32}, true},
		{[]uint32{math.MaxUint32, 0}, false},
		{[]uint32{1<<31 - 1, 1 << 31}, true},
		{[]uint32{1 << 31, 1<<31 - 1}, false},
		{[]uint32{1, 1 << 31, 1<<31 + 2}, true},
		{[]uint32{1, 2, 2}, false},
		{[]uint32{1, 1, 2}, false},
		{[]uint32{1, 3, 2}, false},
		{[]uint32{2, 1, 3}, false},
		{run(0, 1, 100000), true},
		{append(run(0, 1, 100000), 99999), false},
		{append([]uint32{0}, run(0, 1, 100000)...), false},
	}
	for _, c := range tests {
		if got := free.Rises(c.l); got != c.want {
			t.Errorf("%d numbers: %v", len(c.l), got)
		}
	}
}

func TestPageLaysOutTheNumbers(t *testing.T) {
	l := []uint32{3, 0x0102, 0x01020304, 0x7fffffff}
	body := "\x03\x00\x00\x00" + "\x02\x01\x00\x00" + "\x04\x03\x02\x01" + "\xff\xff\xff\x7f" + strings.Repeat("\x00", 88)
	p := api.Page{Kind: 6, Count: 4, Page: 7, Link: 8, Tx: 5, Body: body}
	wantPage(t, 128, 7, 8, 5, l, p)
	wantNumbers(t, p, l, 8)
	p = api.Page{Kind: 6, Count: 0, Page: 7, Link: 0, Tx: 5, Body: strings.Repeat("\x00", 104)}
	wantPage(t, 128, 7, 0, 5, nil, p)
	wantNumbers(t, p, nil, 0)
}

// A page may be followed by another one, whether it is full or has no numbers at all.
func TestPageOfNumbersAndTransactions(t *testing.T) {
	for _, size := range []int{128, 192, 4096} {
		for n, right := range numbers {
			for next, goesOn := range numbers {
				for tx, good := range txs {
					for _, l := range [][]uint32{nil, {3, 9}, run(2, 1, most(size))} {
						if right && good && (next == 0 || goesOn) {
							wantAll(t, size, n, next, tx, l)
						} else {
							wantNone(t, size, n, next, tx, l)
						}
					}
				}
			}
		}
	}
}

func TestPageOfValidNumbers(t *testing.T) {
	for _, size := range goodSizes {
		for _, l := range lists(size) {
			for _, next := range []uint32{0, 2, 6, 7, 8, math.MaxInt32} {
				wantAll(t, size, 7, next, 5, l)
			}
		}
	}
}

func TestPageOfWrongNumbers(t *testing.T) {
	for _, size := range goodSizes {
		for _, l := range wrongLists(size) {
			for _, next := range []uint32{0, 8} {
				wantNone(t, size, 7, next, 5, l)
			}
		}
	}
}

// Each number is asked for, wherever it stands.
func TestPageOfEachPlace(t *testing.T) {
	for _, size := range []int{128, 4096} {
		for i := range most(size) {
			l := run(1000, 10, most(size))
			for _, k := range []uint32{0, 1, 1 << 31, math.MaxUint32} {
				l[i] = k
				wantNone(t, size, 7, 8, 5, l)
			}
			if i > 0 {
				l[i] = l[i-1]
				wantNone(t, size, 7, 8, 5, l)
				l[i] = l[i-1] - 1
				wantNone(t, size, 7, 8, 5, l)
				l[i] = l[i-1] + 1
				wantAll(t, size, 7, 8, 5, l)
			}
		}
	}
}

func TestPageOfEachSize(t *testing.T) {
	for size := -200; size <= 9000; size++ {
		for _, l := range [][]uint32{nil, {2}, {3, 9}, run(2, 1, 26)} {
			for _, next := range []uint32{0, 8} {
				if isGood(size) {
					wantAll(t, size, 7, next, 5, l)
				} else {
					wantNone(t, size, 7, next, 5, l)
				}
			}
		}
	}
	for _, size := range wrongSizes {
		for _, l := range [][]uint32{nil, {2}, {3, 9}} {
			wantNoPage(t, size, 7, 0, 5, l)
			wantNoPage(t, size, 7, 8, 5, l)
		}
	}
}

// Of each size, numbers take all the room, or there is one too many.
func TestWhatFits(t *testing.T) {
	for size := 128; size <= 4096; size += 64 {
		for less := range 10 {
			wantAll(t, size, 7, 8, 5, run(2, 3, most(size)-less))
		}
		for more := 1; more <= 10; more++ {
			wantNone(t, size, 7, 8, 5, run(2, 3, most(size)+more))
		}
		wantNone(t, size, 7, 8, 5, run(2, 3, 65536))
		wantNone(t, size, 7, 8, 5, run(2, 3, 65536+1))
	}
}

func TestOfOfWrongHeaders(t *testing.T) {
	for _, size := range goodSizes {
		for _, l := range lists(size) {
			wrong := func(change func(*api.Page)) {
				p := told(size, 7, 8, 5, l)
				change(&p)
				wantNoNumbers(t, p)
			}
			for _, kind := range []int{0, -1, 1, 2, 3, 4, 5, 7, -6, 262, 1<<32 + 6, math.MinInt, math.MaxInt} {
				wrong(func(p *api.Page) { p.Kind = kind })
			}
			for _, count := range []int{-1, -2, len(l) - 1, len(l) + 1, len(l) + 2, most(size) + 1, size, 65535, 65536, 65536 + len(l), 1<<32 + len(l), -len(l) - 1, math.MinInt, math.MinInt + len(l), math.MaxInt} {
				wrong(func(p *api.Page) { p.Count = count })
			}
			for _, n := range []uint32{0, 1, 1 << 31, 1<<31 + 7, math.MaxUint32} {
				wrong(func(p *api.Page) { p.Page = n })
			}
			for _, n := range []uint32{1, 1 << 31, 1<<31 + 8, math.MaxUint32} {
				wrong(func(p *api.Page) { p.Link = n })
			}
			for _, tx := range []uint64{1<<62 + 1, 1 << 63, 1<<63 + 5, math.MaxUint64} {
				wrong(func(p *api.Page) { p.Tx = tx })
			}
		}
	}
	for _, p := range []api.Page{{}, {Kind: 6, Page: 7}, {Kind: 6, Page: 7, Link: 8, Count: -1}, {Kind: 6, Page: 7, Count: 1}, {Kind: 6, Page: 7, Count: 1, Body: "\x03\x00\x00\x00"}, {Kind: 6, Page: 7, Count: math.MaxInt}, {Kind: 6, Page: 7, Count: math.MaxInt32, Body: strings.Repeat("\x00", 1<<20)}} {
		wantNoNumbers(t, p)
	}
}

// A body with more or less room is one of another size, which is good or not, and in which the numbers fit or not.
func TestOfOfOtherLengths(t *testing.T) {
	for _, size := range []int{128, 192, 1024, 4096} {
		for _, l := range [][]uint32{nil, {3, 9}, run(2, 1, most(size))} {
			p := told(size, 7, 8, 5, l)
			for length := range 4300 {
				q := p
				q.Body = p.Body[:min(length, len(p.Body))] + strings.Repeat("\x00", max(length-len(p.Body), 0))
				if isGood(length+24) && length >= 4*len(l) {
					wantNumbers(t, q, l, 8)
				} else {
					wantNoNumbers(t, q)
				}
			}
		}
	}
}

func TestOfOfWrongBodies(t *testing.T) {
	for _, size := range goodSizes {
		for _, count := range []int{0, 1, 2, 5, 26, 1018, 65535, math.MaxInt} {
			for _, c := range []string{"\x00", "\x01", "\x28", "a", "\xff"} {
				if count > 0 || c != "\x00" { // that is the page of no numbers
					wantNoNumbers(t, api.Page{Kind: 6, Count: count, Page: 7, Tx: 5, Body: strings.Repeat(c, size-24)})
				}
			}
		}
	}
	p := told(128, 7, 8, 5, []uint32{3, 9})
	for _, body := range []string{
		p.Body[1:] + "\x00",
		p.Body[4:8] + p.Body[:4] + p.Body[8:],
		p.Body[:4] + "\x00\x00\x00\x00" + p.Body[4:100], // the numbers do not stand one by one
		p.Body[:8] + "\x0a" + p.Body[9:],                // one more than the Count tells
		p.Body[:103] + "\x01",
	} {
		q := p
		q.Body = body
		wantNoNumbers(t, q)
	}
}

// A change after the numbers makes no page of any; one within them may, but then of others.
func TestEachByteOfTheBodyCounts(t *testing.T) {
	for _, size := range []int{128, 256, 4096} {
		for _, l := range [][]uint32{nil, {5, 0x112233, math.MaxInt32}, run(2, 1<<20, most(size))} {
			p := told(size, 7, 8, 5, l)
			for i := range p.Body {
				for _, turn := range []byte{1, 2, 16, 128, 255} {
					b := []byte(p.Body)
					b[i] ^= turn
					q := p
					q.Body = string(b)
					got, _, e := free.Of(q)
					if i >= 4*len(l) {
						wantNoNumbers(t, q)
					} else if len(l) > 0 && slices.Equal(got, l) || e == api.OK && told(size, 7, 8, 5, got) != q {
						t.Errorf("size %d: byte %d turned by %d does not count: %d", size, i, turn, got)
					}
				}
			}
		}
	}
}

// Neither Page nor Rises reads or writes what lies behind the numbers that they are passed.
func TestSpareCapacityDoesNotCount(t *testing.T) {
	for _, behind := range []uint32{0, 1, 9, 10, math.MaxUint32} {
		whole := slices.Repeat([]uint32{behind}, 26)
		copy(whole, []uint32{3, 9})
		given := slices.Clone(whole)
		wantPage(t, 128, 7, 8, 5, whole[:2], told(128, 7, 8, 5, []uint32{3, 9}))
		if !free.Rises(whole[:2]) || !free.Rises(whole[:0]) {
			t.Errorf("before %d: Rises", behind)
		}
		if !slices.Equal(whole, given) {
			t.Errorf("%d changed to %d", given, whole)
		}
	}
}

func TestOfReturnsNewNumbers(t *testing.T) {
	p := told(128, 7, 8, 5, []uint32{3, 9})
	first, _, _ := free.Of(p)
	second, _, _ := free.Of(p)
	for i := range first[:cap(first)] {
		first[:cap(first)][i] = 77
	}
	if !slices.Equal(second, []uint32{3, 9}) {
		t.Errorf("%d", second)
	}
	wantNumbers(t, p, []uint32{3, 9}, 8)
}

func TestPageKeepsNothing(t *testing.T) {
	l := []uint32{3, 9}
	p, _ := free.Page(128, 7, 8, 5, l)
	l[0] = 4
	if p != told(128, 7, 8, 5, []uint32{3, 9}) {
		t.Errorf("%+v", p)
	}
}

// P10.2

func TestOfOfPage(t *testing.T) {
	for _, size := range goodSizes {
		for _, l := range lists(size) {
			for n, right := range numbers {
				for next, goesOn := range numbers {
					if !right || !goesOn && next != 0 {
						continue
					}
					p, e := free.Page(size, n, next, 11, l)
					if e != api.OK {
						t.Errorf("size %d, %d before %d, %d: %d", size, n, next, l, e)
					}
					wantNumbers(t, p, l, next)
				}
			}
		}
	}
}

func TestPageIsReadAgainFromItsBlock(t *testing.T) {
	for _, size := range goodSizes {
		for _, l := range lists(size) {
			for tx, good := range txs {
				if !good {
					continue
				}
				p, e := free.Page(size, 7, 8, tx, l)
				block, f := frame.Put(size, p)
				if e != api.OK || f != api.OK {
					t.Errorf("size %d, %d: %d %d", size, l, e, f)
				}
				q, e := frame.Get(size, 7, block)
				if q != p || e != api.OK {
					t.Errorf("size %d, %d: %+v %d", size, l, q, e)
				}
				wantNumbers(t, q, l, 8)
			}
		}
	}
}

// Of a page that is one of numbers, these numbers make the same page.
func TestPageOfOf(t *testing.T) {
	for _, size := range goodSizes {
		for _, l := range append(lists(size), wrongLists(size)...) {
			p := told(size, 7, 8, 5, l)
			got, next, e := free.Of(p)
			if e == api.OK {
				wantPage(t, size, p.Page, next, p.Tx, got, p)
			}
		}
	}
}

// listOf makes numbers of bytes.
func listOf(s string) []uint32 {
	var l []uint32
	for ; len(s) >= 4; s = s[4:] {
		l = append(l, binary.LittleEndian.Uint32([]byte(s[:4])))
	}
	return l
}

func isValid(size int, n, next uint32, tx uint64, l []uint32) bool {
	for i, k := range l {
		if k < 2 || k > 1<<31-1 || i > 0 && k <= l[i-1] {
			return false
		}
	}
	return isGood(size) && len(l) <= most(size) && n >= 2 && n <= 1<<31-1 && (next == 0 || next >= 2 && next <= 1<<31-1) && tx <= 1<<62
}

func FuzzPage(f *testing.F) {
	for _, l := range append(lists(128), []uint32{3, 3}, run(2, 1, 27)) {
		s := told(4*len(l)+24, 7, 8, 5, l).Body
		f.Add(128, uint32(7), uint32(8), uint64(5), s, false)
		f.Add(4096, uint32(7), uint32(0), uint64(5), s, true)
	}
	f.Add(-128, uint32(1), uint32(1), uint64(math.MaxUint64), "", false)
	f.Fuzz(func(t *testing.T, size int, n, next uint32, tx uint64, s string, sorted bool) {
		l := listOf(s)
		if sorted {
			slices.Sort(l)
		}
		if got := free.Rises(l); got != rises(l) {
			t.Errorf("%d: %v", l, got)
		}
		if isValid(size, n, next, tx, l) {
			wantAll(t, size, n, next, tx, l)
		} else {
			wantNoPage(t, size, n, next, tx, l)
		}
	})
}

func FuzzOf(f *testing.F) {
	for _, l := range append(lists(128), []uint32{3, 3}, run(2, 1, 27)) {
		f.Add(6, len(l), uint32(7), uint32(8), uint64(5), told(128, 7, 8, 5, l).Body)
	}
	f.Add(6, -1, uint32(1), uint32(9), uint64(math.MaxUint64), "")
	f.Fuzz(func(t *testing.T, kind, count int, n, next uint32, tx uint64, body string) {
		if len(body) > 0 && len(body) < 104 {
			body += strings.Repeat("\x00", 104-len(body))
		}
		p := api.Page{Kind: kind, Count: count, Page: n, Link: next, Tx: tx, Body: body}
		size := len(body) + 24
		l := listOf(body)
		if kind == 6 && count >= 0 && count <= len(l) && isValid(size, n, next, tx, l[:count]) && told(size, n, next, tx, l[:count]) == p {
			wantNumbers(t, p, l[:count], next)
		} else {
			wantNoNumbers(t, p)
		}
	})
}
