package branch_test

import (
	"encoding/binary"
	"math"
	"slices"
	"strings"
	"testing"

	"careenage/api"
	"careenage/branch"
	"careenage/frame"
)

var (
	goodSizes  = []int{128, 192, 256, 1024, 4032, 4096}
	wrongSizes = []int{0, 1, 24, 29, 64, 127, 129, 191, 4095, 4097, 4160, 1<<16 + 128, 1<<32 + 128, -1, -128, math.MinInt, math.MinInt + 128, math.MaxInt, math.MaxInt - 63}
)

// keyed are forks with these keys, and with children of their own.
func keyed(keys ...string) []api.Fork {
	var l []api.Fork
	for i, key := range keys {
		l = append(l, api.Fork{Key: key, Child: uint32(2 + 300*i)})
	}
	return l
}

// filled are valid forks that take that many bytes, at least 5. Their keys ascend.
func filled(bytes int) []api.Fork {
	var keys []string
	for bytes > 0 {
		take := min(bytes, 45)
		if left := bytes - take; left > 0 && left < 6 { // too few for another key than the empty one
			take = bytes - 6
		}
		first := string([]byte{byte(len(keys))})
		keys = append(keys, (first + strings.Repeat("k", 40))[:take-5])
		bytes -= take
	}
	return keyed(keys...)
}

// many are as many valid forks as a page of a size has room for.
func many(size int) []api.Fork {
	keys, left := []string{""}, size-24-5
	for length := 1; length <= 2; length++ {
		for i := 0; i < 1<<(8*length) && left >= length+5; i++ {
			keys = append(keys, string([]byte{byte(i), byte(i >> 8)}[:length]))
			left -= length + 5
		}
	}
	slices.Sort(keys)
	return keyed(keys...)
}

// lists are valid forks for a size: ordinary ones, and those at the edges.
func lists(size int) [][]api.Fork {
	return [][]api.Fork{
		keyed(""),
		keyed("a"),
		keyed("\x00"),
		keyed("\xff"),
		keyed("", "b", "d"),
		keyed("a", "ab", "abc", "b"),
		keyed("A", "B", "Z", "a", "b"),
		keyed("", "\x00", "\x00\x00", "\x01", "\x7f", "\x80", "\xff", "\xff\x00"),
		keyed("an", "ao\x00\x00", "ä", "\xe4", "日本"),
		keyed(strings.Repeat("k", 40)),
		keyed("", strings.Repeat("\xff", 40)),
		keyed(strings.Repeat("\x00", 39), strings.Repeat("\x00", 40)),
		{{Key: "a", Child: 2}, {Key: "b", Child: math.MaxInt32}, {Key: "c", Child: 3}},
		{{Key: "", Child: 0x12345678}, {Key: "b", Child: 256}, {Key: "c", Child: 65536}, {Key: "d", Child: 1 << 24}},
		{{Key: "a", Child: 7}, {Key: "b", Child: 7}},
		{{Key: "\x01\x00\x00\x00\x00", Child: 1 << 8}},
		filled(5),
		filled(6),
		filled(size - 24),
		filled(size - 25),
		many(size),
	}
}

// wrongLists are forks that are not valid, or that do not fit a size, each for one reason.
func wrongLists(size int) [][]api.Fork {
	all := [][]api.Fork{
		nil,
		{},
		keyed("a", "a"),
		keyed("", ""),
		keyed("a", ""),
		keyed("b", "a"),
		keyed("ab", "a"),
		keyed("a", "Z"),
		keyed("\x80", "\x7f"),
		keyed("\x00\x00", "\x00"),
		keyed("a", "c", "b"),
		keyed("a", "b", "a"),
		keyed("a", "b", "b"),
		keyed("", "a", "b", ""),
		filled(size - 23),
		filled(size - 18),
		filled(size),
		filled(2*size - 48),
		filled(2 * size),
		append(many(size), api.Fork{Key: "\xff\xff\xff", Child: 2}),
	}
	for _, child := range []uint32{0, 1, 1 << 31, 1<<31 + 1, 1<<31 + 2, math.MaxUint32} {
		for _, key := range []string{"", "k"} {
			f := api.Fork{Key: key, Child: child}
			all = append(all, []api.Fork{f}, []api.Fork{f, {Key: "l", Child: 2}})
			if key != "" {
				all = append(all, []api.Fork{{Child: 2}, f}, []api.Fork{{Child: 2}, f, {Key: "l", Child: 2}})
			}
		}
	}
	for _, length := range []int{41, 42, 80, 99, 100, 255, 256, 257, 296} {
		key := strings.Repeat("k", length)
		all = append(all, keyed(key), keyed("", key), keyed(key, "l"), keyed("a", key, "l"))
	}
	return all
}

// told returns what the page of forks says, whether they are valid or not, laid out a second time by Go's library. Its body has the length for the page size, if what it says has room.
func told(size int, n uint32, tx uint64, l []api.Fork) api.Page {
	var b []byte
	for _, f := range l {
		b = append(b, byte(len(f.Key)))
		b = append(b, f.Key...)
		b = binary.LittleEndian.AppendUint32(b, f.Child)
	}
	body := string(b) + strings.Repeat("\x00", max(size-24-len(b), 0))
	return api.Page{Kind: 3, Count: len(l), Page: n, Tx: tx, Body: body}
}

func wantPage(t *testing.T, size int, n uint32, tx uint64, l []api.Fork, want api.Page) {
	t.Helper()
	given := slices.Clone(l)
	if p, e := branch.Page(size, n, tx, l); p != want || e != api.OK {
		t.Errorf("Page of size %d, %d, %d, %+v:\n%+v %d, not\n%+v", size, n, tx, l, p, e, want)
	}
	if !slices.Equal(l, given) {
		t.Fatalf("Page changed %+v to %+v", given, l)
	}
}

func wantNoPage(t *testing.T, size int, n uint32, tx uint64, l []api.Fork) {
	t.Helper()
	given := slices.Clone(l)
	if p, e := branch.Page(size, n, tx, l); p != (api.Page{}) || e != api.ErrArg {
		t.Errorf("Page of size %d, %d, %d, %+v: %+v %d", size, n, tx, l, p, e)
	}
	if !slices.Equal(l, given) {
		t.Fatalf("Page changed %+v to %+v", given, l)
	}
}

func wantForks(t *testing.T, p api.Page, want []api.Fork) {
	t.Helper()
	if l, e := branch.Of(p); !slices.Equal(l, want) || e != api.OK {
		t.Errorf("Of %+v:\n%+v %d, not\n%+v", p, l, e, want)
	}
}

func wantNoForks(t *testing.T, p api.Page) {
	t.Helper()
	if l, e := branch.Of(p); len(l) != 0 || e != api.ErrBad {
		t.Errorf("Of %+v: %+v %d", p, l, e)
	}
}

// P7.1

func TestKey(t *testing.T) {
	for length := range 600 {
		for _, c := range []string{"\x00", "a", " ", "\x80", "\xff"} {
			s := strings.Repeat(c, length)
			if got := branch.Key(s); got != (length <= 40) {
				t.Errorf("%d bytes of %q: %v", length, c, got)
			}
		}
	}
	tests := map[string]bool{"": true, strings.Repeat("ä", 20): true, strings.Repeat("ä", 20) + "a": false, strings.Repeat("ä", 21): false, "a\x00b/..\n": true, "\xffa": true, strings.Repeat("k", 1<<20): false}
	for s, want := range tests {
		if got := branch.Key(s); got != want {
			t.Errorf("%q: %v", s, got)
		}
	}
}

func TestSize(t *testing.T) {
	tests := []struct {
		l    []api.Fork
		want int
	}{
		{nil, 0},
		{[]api.Fork{}, 0},
		{keyed(""), 5},
		{keyed("a"), 6},
		{keyed("", "b", "d"), 17},
		{keyed("", ""), 10},
		{keyed("b", "a", "b"), 18},
		{keyed("ä"), 7},
		{keyed(strings.Repeat("k", 40)), 45},
		{keyed(strings.Repeat("k", 41)), 46},
		{keyed(strings.Repeat("k", 300), "k"), 311},
		{[]api.Fork{{Key: "a"}, {Child: math.MaxUint32}}, 11},
		{make([]api.Fork, 70000), 350000},
	}
	for _, c := range tests {
		if got := branch.Size(c.l); got != c.want {
			t.Errorf("%d forks: %d, not %d", len(c.l), got, c.want)
		}
	}
	for bytes := 5; bytes < 5000; bytes++ {
		if got := branch.Size(filled(bytes)); got != bytes {
			t.Errorf("%d, not %d", got, bytes)
		}
	}
}

func TestPageLaysOutTheForks(t *testing.T) {
	l := []api.Fork{{Key: "", Child: 0x01020304}, {Key: "ab", Child: 5}}
	body := "\x00" + "\x04\x03\x02\x01" + "\x02ab" + "\x05\x00\x00\x00" + strings.Repeat("\x00", 92)
	p := api.Page{Kind: 3, Count: 2, Page: 7, Link: 0, Tx: 5, Body: body}
	wantPage(t, 128, 7, 5, l, p)
	wantForks(t, p, l)
}

func TestPageOfValidForks(t *testing.T) {
	for _, size := range goodSizes {
		for _, l := range lists(size) {
			if branch.Size(l) > size-24 {
				t.Fatalf("size %d: %+v do not fit", size, l)
			}
			wantPage(t, size, 7, 5, l, told(size, 7, 5, l))
			wantForks(t, told(size, 7, 5, l), l)
		}
	}
}

func TestPageOfWrongForks(t *testing.T) {
	for _, size := range goodSizes {
		for _, l := range wrongLists(size) {
			wantNoPage(t, size, 7, 5, l)
			wantNoPage(t, size, 2, 0, l)
		}
	}
}

func TestPageOfNumbersAndTransactions(t *testing.T) {
	numbers := map[uint32]bool{0: false, 1: false, 2: true, 3: true, 256: true, 65537: true, 1<<31 - 2: true, 1<<31 - 1: true, 1 << 31: false, 1<<31 + 2: false, math.MaxUint32: false}
	txs := map[uint64]bool{0: true, 1: true, 1 << 32: true, 1<<53 + 1: true, 1<<62 - 1: true, 1 << 62: true, 1<<62 + 1: false, 1 << 63: false, math.MaxUint64: false}
	for _, size := range goodSizes {
		for _, l := range [][]api.Fork{keyed(""), keyed("", "b", "d"), filled(size - 24)} {
			for n, good := range numbers {
				for tx, right := range txs {
					p := told(size, n, tx, l)
					if good && right {
						wantPage(t, size, n, tx, l, p)
						wantForks(t, p, l)
					} else {
						wantNoPage(t, size, n, tx, l)
						wantNoForks(t, p)
					}
				}
			}
		}
	}
}

func TestPageOfEachSize(t *testing.T) {
	for size := -200; size <= 9000; size++ {
		good := size >= 128 && size <= 4096 && size%64 == 0
		for _, l := range [][]api.Fork{keyed(""), keyed("a", "b")} {
			p := told(size, 7, 5, l)
			if good {
				wantPage(t, size, 7, 5, l, p)
				wantForks(t, p, l)
			} else {
				wantNoPage(t, size, 7, 5, l)
				wantNoForks(t, p)
			}
		}
	}
	for _, size := range wrongSizes {
		for _, l := range [][]api.Fork{nil, keyed(""), keyed("a", "b")} {
			wantNoPage(t, size, 7, 5, l)
		}
	}
}

// Of each size, forks take all the room, or a byte more.
func TestWhatFits(t *testing.T) {
	for size := 128; size <= 4096; size += 64 {
		for less := range 50 {
			l := filled(size - 24 - less)
			wantPage(t, size, 7, 5, l, told(size, 7, 5, l))
			wantForks(t, told(size, 7, 5, l), l)
		}
		for more := 1; more < 50; more++ {
			l := filled(size - 24 + more)
			wantNoPage(t, size, 7, 5, l)
			wantNoForks(t, told(size, 7, 5, l))
		}
	}
}

func TestOfOfWrongForks(t *testing.T) {
	for _, size := range goodSizes {
		for _, l := range wrongLists(size) {
			if !slices.ContainsFunc(l, func(f api.Fork) bool { return len(f.Key) > 255 }) { // of others, a page would say something else
				wantNoForks(t, told(size, 7, 5, l))
			}
		}
	}
}

func TestOfOfWrongHeaders(t *testing.T) {
	for _, size := range goodSizes {
		for _, l := range lists(size) {
			wrong := func(change func(*api.Page)) {
				p := told(size, 7, 5, l)
				change(&p)
				wantNoForks(t, p)
			}
			for _, kind := range []int{0, -1, 1, 2, 4, 5, 6, 7, 259, 1<<32 + 3, math.MinInt, math.MaxInt} {
				wrong(func(p *api.Page) { p.Kind = kind })
			}
			for _, n := range []uint32{1, 2, 7, 8, 1 << 31, math.MaxUint32} {
				wrong(func(p *api.Page) { p.Link = n })
			}
			for _, n := range []uint32{0, 1, 1 << 31, 1<<31 + 7, math.MaxUint32} {
				wrong(func(p *api.Page) { p.Page = n })
			}
			for _, tx := range []uint64{1<<62 + 1, 1 << 63, 1<<63 + 5, math.MaxUint64} {
				wrong(func(p *api.Page) { p.Tx = tx })
			}
			for _, count := range []int{-1, 0, 65535, 65536, 65536 + len(l), 1<<32 + len(l), math.MinInt, math.MaxInt, len(l) - 1, len(l) + 1, -len(l), -len(l) - 1} {
				wrong(func(p *api.Page) { p.Count = count })
			}
		}
	}
}

// A body with more or less room is one of another size, which is good or not, and in which the forks fit or not.
func TestOfOfOtherLengths(t *testing.T) {
	for _, size := range []int{128, 192, 1024, 4096} {
		for _, l := range [][]api.Fork{keyed(""), keyed("a", "b"), filled(size - 24), many(size)} {
			p := told(size, 7, 5, l)
			for length := range 4300 {
				q := p
				q.Body = p.Body[:min(length, len(p.Body))] + strings.Repeat("\x00", max(length-len(p.Body), 0))
				other := length + 24
				good := other >= 128 && other <= 4096 && other%64 == 0
				if good && length >= branch.Size(l) {
					wantForks(t, q, l)
				} else {
					wantNoForks(t, q)
				}
			}
		}
	}
	for _, p := range []api.Page{{}, {Kind: 3, Page: 2}, {Kind: 3, Page: 2, Count: 1}, {Kind: 3, Page: 2, Count: math.MaxInt}, {Kind: 3, Page: 2, Count: math.MaxInt32, Body: strings.Repeat("\x00", 1<<20)}} {
		wantNoForks(t, p)
	}
}

// Bodies that end within a fork, whichever part of it.
func TestOfOfBodiesThatEndEarly(t *testing.T) {
	next := []string{"\x28" + strings.Repeat("\xfe", 40) + "\x02\x00\x00\x00", "\x01\xfe\x02\x00\x00\x00", "\x00\x02\x00\x00\x00", "\xff" + strings.Repeat("\xfe", 99)}
	for _, size := range goodSizes {
		for _, fork := range next {
			for last := range len(fork) {
				p := told(size, 7, 5, filled(size-24-last))
				p.Body = p.Body[:size-24-last] + fork[:last]
				for range 3 {
					p.Count++
					wantNoForks(t, p)
				}
			}
		}
	}
}

func TestOfOfWrongBodies(t *testing.T) {
	for _, size := range goodSizes {
		for _, count := range []int{0, 1, 2, 5, 814, 65535, math.MaxInt} {
			for _, c := range []string{"\x00", "\x01", "\x28", "a", "\xff"} {
				wantNoForks(t, api.Page{Kind: 3, Count: count, Page: 7, Tx: 5, Body: strings.Repeat(c, size-24)})
			}
		}
		p := told(size, 7, 5, keyed("a", "b"))
		for _, body := range []string{p.Body[1:] + "\x00", "\x00" + p.Body[1:], p.Body[:6] + "\x00" + p.Body[6:size-25], p.Body[6:12] + p.Body[:6] + p.Body[12:]} {
			q := p
			q.Body = body
			wantNoForks(t, q)
		}
	}
}

// A change after the forks makes no page of any; one within them may, but then of others.
func TestEachByteOfTheBodyCounts(t *testing.T) {
	for _, size := range []int{128, 256, 4096} {
		l := []api.Fork{{Key: "", Child: 5}, {Key: "ab", Child: 0x112233}, {Key: "c", Child: math.MaxInt32}}
		p := told(size, 7, 5, l)
		for i := range p.Body {
			for _, turn := range []byte{1, 2, 16, 128, 255} {
				b := []byte(p.Body)
				b[i] ^= turn
				q := p
				q.Body = string(b)
				got, e := branch.Of(q)
				if i >= branch.Size(l) {
					wantNoForks(t, q)
				} else if slices.Equal(got, l) || e == api.OK && told(size, 7, 5, got) != q {
					t.Errorf("size %d: byte %d turned by %d does not count: %+v", size, i, turn, got)
				}
			}
		}
	}
}

func TestOfReturnsNewForks(t *testing.T) {
	p := told(128, 7, 5, keyed("a", "b"))
	l, _ := branch.Of(p)
	for i := range l[:cap(l)] {
		l[:cap(l)][i] = api.Fork{Key: "changed"}
	}
	wantForks(t, p, keyed("a", "b"))
}

// P7.2

// picked returns what Pick is to return.
func picked(l []api.Fork, key string) int {
	above := func(f api.Fork) bool { return strings.Compare(f.Key, key) > 0 }
	for n := len(l); n > 0; n-- {
		if !slices.ContainsFunc(l[:n], above) {
			return n - 1
		}
	}
	return 0
}

var sought = []string{"", "\x00", "A", "a", "a\x00", "ab", "b", "c", "d", "k", "m", "z", "\x80", "\xff", "\xff\xff", strings.Repeat("k", 40), strings.Repeat("k", 41), strings.Repeat("z", 300)}

// anyLists are all lists of up to 5 forks with some keys, in whichever order, and further ones, valid or not.
func anyLists() [][]api.Fork {
	all := [][]api.Fork{nil}
	for i := 0; i < len(all); i++ {
		if l := all[i]; len(l) < 5 {
			for _, key := range []string{"", "a", "b", "\xff"} {
				all = append(all, append(slices.Clone(l), api.Fork{Key: key, Child: uint32(len(l))}))
			}
		}
	}
	for _, size := range goodSizes {
		all = append(all, lists(size)...)
		all = append(all, wrongLists(size)...)
	}
	return all
}

func TestPick(t *testing.T) {
	for _, l := range anyLists() {
		given := slices.Clone(l)
		for _, key := range sought {
			if i, want := branch.Pick(l, key), picked(l, key); i != want {
				t.Errorf("%q in %+v: %d, not %d", key, l, i, want)
			}
		}
		if !slices.Equal(l, given) {
			t.Fatalf("Pick changed %+v to %+v", given, l)
		}
	}
}

func TestPickOfSomeForks(t *testing.T) {
	tests := []struct {
		l    []api.Fork
		key  string
		want int
	}{
		{nil, "", 0},
		{nil, "a", 0},
		{keyed("", "b", "d"), "a", 0},
		{keyed("", "b", "d"), "b", 1},
		{keyed("", "b", "d"), "z", 2},
		{keyed("", "b", "d"), "", 0},
		{keyed("", "b", "d"), "c", 1},
		{keyed("", "b", "d"), "d", 2},
		{keyed("", "b", "d"), "d\x00", 2},
		{keyed("b", "d"), "", 0},
		{keyed("b", "d"), "a", 0},
		{keyed("b", "d"), "c", 0},
		{keyed("b", "d"), "B", 0},
		{keyed("a", "ab", "abc"), "ab", 1},
		{keyed("a", "ab", "abc"), "aba", 1},
		{keyed("a", "ab", "abc"), "b", 2},
		{keyed("\x7f", "\x80"), "\x80", 1},
		{keyed("\x7f", "\x81"), "\x80", 0},
		{keyed("a", "d", "b"), "c", 0},
		{keyed("d", "a", "b"), "c", 0},
		{keyed("c", "a", "b"), "c", 2},
		{keyed("a", "a", "a"), "a", 2},
		{keyed("a", "a", "b", "a"), "a", 1},
		{keyed("", "", "b"), "", 1},
	}
	for _, c := range tests {
		if i := branch.Pick(c.l, c.key); i != c.want {
			t.Errorf("%q in %+v: %d, not %d", c.key, c.l, i, c.want)
		}
	}
}

// P7.3

func TestOfOfPageIsTheForks(t *testing.T) {
	for _, size := range goodSizes {
		for _, l := range lists(size) {
			p, e := branch.Page(size, 9, 11, l)
			if e != api.OK {
				t.Errorf("size %d, %+v: %d", size, l, e)
			}
			wantForks(t, p, l)
			block, e := frame.Put(size, p)
			if e != api.OK {
				t.Errorf("size %d, %+v: its page cannot be put: %d", size, l, e)
			}
			q, e := frame.Get(size, 9, block)
			if q != p || e != api.OK {
				t.Errorf("size %d, %+v: its page is read as %+v %d", size, l, q, e)
			}
		}
	}
}

func TestPickOfTheKeyOfAForkIsItsIndex(t *testing.T) {
	for _, size := range goodSizes {
		for _, l := range lists(size) {
			for i, f := range l {
				if got := branch.Pick(l, f.Key); got != i {
					t.Errorf("%q in %+v: %d, not %d", f.Key, l, got, i)
				}
			}
		}
	}
}

// listOf makes forks of bytes: each a length, a key, and a child.
func listOf(s string) []api.Fork {
	var l []api.Fork
	for len(s) > 0 {
		length := int(s[0] % 44)
		s = s[1:]
		if len(s) < length+4 {
			break
		}
		l = append(l, api.Fork{Key: s[:length], Child: binary.LittleEndian.Uint32([]byte(s[length : length+4]))})
		s = s[length+4:]
	}
	return l
}

func isValid(size int, l []api.Fork) bool {
	if size < 128 || size > 4096 || size%64 != 0 || len(l) == 0 {
		return false
	}
	bytes := 0
	for i, f := range l {
		if len(f.Key) > 40 || f.Child < 2 || f.Child > 1<<31-1 || i > 0 && strings.Compare(l[i-1].Key, f.Key) >= 0 {
			return false
		}
		bytes += len(f.Key) + 5
	}
	return bytes <= size-24
}

func FuzzPage(f *testing.F) {
	for _, l := range lists(128) {
		f.Add(128, uint32(7), uint64(5), told(0, 7, 5, l).Body, "a", false)
		f.Add(4096, uint32(7), uint64(5), told(0, 7, 5, l).Body, "", true)
	}
	f.Fuzz(func(t *testing.T, size int, n uint32, tx uint64, s, key string, sorted bool) {
		l := listOf(s)
		if sorted {
			slices.SortFunc(l, func(a, b api.Fork) int { return strings.Compare(a.Key, b.Key) })
		}
		if i, want := branch.Pick(l, key), picked(l, key); i != want {
			t.Errorf("%q in %+v: %d, not %d", key, l, i, want)
		}
		if !isValid(size, l) || n < 2 || n > 1<<31-1 || tx > 1<<62 {
			wantNoPage(t, size, n, tx, l)
			return
		}
		wantPage(t, size, n, tx, l, told(size, n, tx, l))
		wantForks(t, told(size, n, tx, l), l)
	})
}

func FuzzOf(f *testing.F) {
	for _, l := range lists(128) {
		f.Add(3, len(l), uint32(7), uint32(0), uint64(5), told(128, 7, 5, l).Body)
	}
	f.Add(9, -1, uint32(1), uint32(9), uint64(math.MaxUint64), "")
	f.Fuzz(func(t *testing.T, kind, count int, n, link uint32, tx uint64, body string) {
		if len(body) > 0 && len(body) < 104 {
			body += strings.Repeat("\x00", 104-len(body))
		}
		p := api.Page{Kind: kind, Count: count, Page: n, Link: link, Tx: tx, Body: body}
		l, e := branch.Of(p)
		if e != api.OK {
			wantNoForks(t, p)
			return
		}
		size := len(body) + 24
		if !isValid(size, l) || n < 2 || n > 1<<31-1 || tx > 1<<62 || told(size, n, tx, l) != p {
			t.Errorf("Of %+v: %+v", p, l)
		}
	})
}
