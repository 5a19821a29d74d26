package catalog_test

import (
	"encoding/binary"
	"math"
	"slices"
	"strings"
	"testing"

	"careenage/api"
	"careenage/catalog"
	"careenage/frame"
)

var (
	goodSizes  = []int{128, 192, 256, 1024, 4032, 4096}
	wrongSizes = []int{0, 1, 24, 43, 64, 127, 129, 191, 4095, 4097, 4160, 1<<16 + 128, 1<<32 + 128, -1, -128, math.MinInt, math.MinInt + 128, math.MaxInt, math.MaxInt - 63}
)

const lost = "lost+found"

// named are buckets that are empty.
func named(names ...string) []api.Bucket {
	var l []api.Bucket
	for _, name := range names {
		l = append(l, api.Bucket{Name: name})
	}
	return l
}

// filled are valid buckets that take that many bytes, at least 10. Their names ascend from a first byte on.
func filled(bytes int, first byte) []api.Bucket {
	var l []api.Bucket
	for bytes > 0 {
		take := min(bytes, 25)
		if left := bytes - take; left > 0 && left < 10 {
			take = bytes - 10
		}
		n := len(l) + 2
		name := string([]byte{first + byte(len(l))}) + strings.Repeat("n", take-10)
		l = append(l, api.Bucket{Name: name, Root: uint32(n), Keys: 3 * n})
		bytes -= take
	}
	return l
}

// most is the size that buckets without lost+found may have.
func most(size int) int {
	return size - 24 - 19
}

// withLost returns buckets and lost+found among them, in order.
func withLost(l []api.Bucket, root uint32, keys int) []api.Bucket {
	l = append(slices.Clone(l), api.Bucket{Name: lost, Root: root, Keys: keys})
	slices.SortFunc(l, func(a, b api.Bucket) int { return strings.Compare(a.Name, b.Name) })
	return l
}

// lists are valid buckets for a size: ordinary ones, and those at the edges.
func lists(size int) [][]api.Bucket {
	all := [][]api.Bucket{
		nil,
		{},
		named("a"),
		named("a", "ab", "b"),
		named("A", "B", "Z", "a", "b"),
		named("\x00", "\x00\x00", "\x01", "\x7f", "\x80", "\xff", "\xff\x00"),
		named("\xff\xff\xff\xff\xff\xff\xff\xff\xff\xff\xff\xff\xff\xff\xff\xff"),
		named("lost", "lost+foun", "lost+founE"),
		named("lost+found!", "lost+found+", "lost+foune"),
		named("an", "ao\x00\x00", "ä", "\xe4", "日本"),
		{{Name: "a", Root: 2, Keys: 1}, {Name: "b", Root: math.MaxInt32, Keys: math.MaxInt32}, {Name: "c"}},
		{{Name: "a", Root: 0x12345678, Keys: 0x23456789}, {Name: "b", Root: 3, Keys: 256}, {Name: "c", Root: 256, Keys: 65536}},
		{{Name: "a", Root: 7, Keys: 1}, {Name: "b", Root: 7, Keys: 1}},
		filled(most(size), 0),
		filled(most(size)-1, 0),
	}
	if size < 1000 {
		all = append(all, filled(most(size), 'm'))
	}
	if size > 3000 {
		var names []string
		for i := range 256 {
			names = append(names, string([]byte{byte(i)}))
		}
		all = append(all, named(names...))
	}
	for _, l := range slices.Clone(all) {
		all = append(all, withLost(l, 0, 0), withLost(l, 2, 1), withLost(l, math.MaxInt32, math.MaxInt32))
	}
	return all
}

// wrongLists are buckets that are not valid for a size, each for one reason.
func wrongLists(size int) [][]api.Bucket {
	all := [][]api.Bucket{
		named("a", "a"),
		named("b", "a"),
		named("ab", "a"),
		named("a", "Z"),
		named("\x80", "\x7f"),
		named("\x00\x00", "\x00"),
		named("a", "c", "b"),
		named("a", "b", "a"),
		named(lost, lost),
		named(lost, "a"),
		named("m", lost),
		named("a", lost, lost),
		filled(most(size)+1, 0),
		filled(most(size)+9, 0),
		filled(most(size)+19, 0),
		withLost(filled(most(size)+1, 0), 0, 0),
		withLost(filled(most(size)+19, 0), 2, 1),
		filled(3*size, 0)[:min(200, 3*size/25)],
	}
	wrong := func(b api.Bucket) {
		all = append(all, []api.Bucket{b}, []api.Bucket{{Name: "\x00"}, b}, []api.Bucket{b, {Name: "\xff"}})
	}
	for _, name := range []string{"a", lost} {
		for _, root := range []uint32{1, 1 << 31, 1<<31 + 2, math.MaxUint32} {
			wrong(api.Bucket{Name: name, Root: root})
			wrong(api.Bucket{Name: name, Root: root, Keys: 1})
			wrong(api.Bucket{Name: name, Root: root, Keys: math.MaxInt32})
		}
		for _, root := range []uint32{2, 3, math.MaxInt32} {
			for _, keys := range []int{0, -1, 1 << 31, 1<<31 + 1, 1 << 32, 1<<32 + 1, math.MaxUint32, math.MinInt, math.MaxInt} {
				wrong(api.Bucket{Name: name, Root: root, Keys: keys})
			}
		}
		for _, keys := range []int{1, -1, 3, math.MaxInt32, 1 << 32, math.MinInt, math.MaxInt} {
			wrong(api.Bucket{Name: name, Keys: keys})
		}
	}
	for _, length := range []int{0, 17, 18, 255, 256, 257, 272} {
		name := strings.Repeat("n", length)
		all = append(all, named(name), []api.Bucket{{Name: name, Root: 2, Keys: 1}}, named(name, "o"))
		if length > 0 {
			all = append(all, named("a", name))
		}
	}
	return all
}

// told returns what the page of buckets says, whether they are valid or not, laid out a second time by Go's library. Its body has the length for the page size, if what it says has room.
func told(size int, n uint32, tx uint64, l []api.Bucket) api.Page {
	var b []byte
	for _, k := range l {
		b = append(b, byte(len(k.Name)))
		b = append(b, k.Name...)
		b = binary.LittleEndian.AppendUint32(b, k.Root)
		b = binary.LittleEndian.AppendUint32(b, uint32(k.Keys))
	}
	body := string(b) + strings.Repeat("\x00", max(size-24-len(b), 0))
	return api.Page{Kind: 2, Count: len(l), Page: n, Tx: tx, Body: body}
}

func wantPage(t *testing.T, size int, n uint32, tx uint64, l []api.Bucket, want api.Page) {
	t.Helper()
	given := slices.Clone(l)
	if p, e := catalog.Page(size, n, tx, l); p != want || e != api.OK {
		t.Errorf("Page of size %d, %d, %d, %+v:\n%+v %d, not\n%+v", size, n, tx, l, p, e, want)
	}
	if !slices.Equal(l, given) {
		t.Fatalf("Page changed %+v to %+v", given, l)
	}
}

func wantNoPage(t *testing.T, size int, n uint32, tx uint64, l []api.Bucket) {
	t.Helper()
	given := slices.Clone(l)
	if p, e := catalog.Page(size, n, tx, l); p != (api.Page{}) || e != api.ErrArg {
		t.Errorf("Page of size %d, %d, %d, %+v: %+v %d", size, n, tx, l, p, e)
	}
	if !slices.Equal(l, given) {
		t.Fatalf("Page changed %+v to %+v", given, l)
	}
}

func wantBuckets(t *testing.T, p api.Page, want []api.Bucket) {
	t.Helper()
	if l, e := catalog.Of(p); !slices.Equal(l, want) || e != api.OK {
		t.Errorf("Of %+v:\n%+v %d, not\n%+v", p, l, e, want)
	}
}

func wantNoBuckets(t *testing.T, p api.Page) {
	t.Helper()
	if l, e := catalog.Of(p); len(l) != 0 || e != api.ErrBad {
		t.Errorf("Of %+v: %+v %d", p, l, e)
	}
}

// P6.1

func TestName(t *testing.T) {
	for length := range 600 {
		for _, c := range []string{"\x00", "a", " ", "\x80", "\xff"} {
			s := strings.Repeat(c, length)
			if got := catalog.Name(s); got != (length >= 1 && length <= 16) {
				t.Errorf("%d bytes of %q: %v", length, c, got)
			}
		}
	}
	tests := map[string]bool{lost: true, "ääääääää": true, "äääääääää": false, "a\x00b/..\n": true, "\xffa": true, "0123456789abcdef": true, "0123456789abcdefg": false}
	for s, want := range tests {
		if got := catalog.Name(s); got != want {
			t.Errorf("%q: %v", s, got)
		}
	}
}

func TestSize(t *testing.T) {
	tests := []struct {
		l    []api.Bucket
		want int
	}{
		{nil, 0},
		{[]api.Bucket{}, 0},
		{named("a"), 10},
		{[]api.Bucket{{Name: "a", Root: 5, Keys: 3}}, 10},
		{named("a", "bc"), 21},
		{named(lost), 19},
		{named("a", lost, lost), 48},
		{named(""), 9},
		{named("", ""), 18},
		{named("b", "a", "b"), 30},
		{named("ä"), 11},
		{named("0123456789abcdef"), 25},
		{named(strings.Repeat("n", 300), "n"), 319},
		{[]api.Bucket{{Name: "a", Root: 1, Keys: -1}, {Root: math.MaxUint32, Keys: math.MinInt}}, 19},
		{make([]api.Bucket, 70000), 630000},
	}
	for _, c := range tests {
		if got := catalog.Size(c.l); got != c.want {
			t.Errorf("%d buckets: %d, not %d", len(c.l), got, c.want)
		}
	}
}

func TestPageLaysOutTheBuckets(t *testing.T) {
	l := []api.Bucket{{Name: "ab", Root: 0x01020304, Keys: 0x05060708}, {Name: "c"}}
	body := "\x02ab" + "\x04\x03\x02\x01" + "\x08\x07\x06\x05" + "\x01c" + "\x00\x00\x00\x00" + "\x00\x00\x00\x00" + strings.Repeat("\x00", 83)
	p := api.Page{Kind: 2, Count: 2, Page: 7, Link: 0, Tx: 5, Body: body}
	wantPage(t, 128, 7, 5, l, p)
	wantBuckets(t, p, l)
	empty := api.Page{Kind: 2, Page: 2, Body: strings.Repeat("\x00", 104)}
	wantPage(t, 128, 2, 0, nil, empty)
	wantBuckets(t, empty, nil)
}

func TestPageOfValidBuckets(t *testing.T) {
	for _, size := range goodSizes {
		for _, l := range lists(size) {
			if catalog.Size(l) > size-24 || catalog.Size(catalog.Del(l, lost)) > most(size) {
				t.Fatalf("size %d: %+v do not fit", size, l)
			}
			wantPage(t, size, 7, 5, l, told(size, 7, 5, l))
			wantBuckets(t, told(size, 7, 5, l), l)
		}
	}
}

func TestPageOfWrongBuckets(t *testing.T) {
	for _, size := range goodSizes {
		for _, l := range wrongLists(size) {
			wantNoPage(t, size, 7, 5, l)
			wantNoPage(t, size, 2, 0, l)
		}
	}
}

func TestPageOfNumbersAndTransactions(t *testing.T) {
	numbers := map[uint32]bool{0: false, 1: false, 2: true, 3: true, 256: true, 65537: true, 1<<31 - 2: true, 1<<31 - 1: true, 1 << 31: false, 1<<31 + 2: false, math.MaxUint32: false}
	txs := map[uint64]bool{0: true, 1: true, 1 << 32: true, 1<<53 + 1: true, 1<<62 - 1: true, 1 << 62: true, 1<<62 + 1: false, 1 << 63: false, math.MaxUint64: false}
	for _, size := range goodSizes {
		for _, l := range [][]api.Bucket{nil, named("a"), filled(most(size), 0)} {
			for n, good := range numbers {
				for tx, right := range txs {
					p := told(size, n, tx, l)
					if good && right {
						wantPage(t, size, n, tx, l, p)
						wantBuckets(t, p, l)
					} else {
						wantNoPage(t, size, n, tx, l)
						wantNoBuckets(t, p)
					}
				}
			}
		}
	}
}

func TestPageOfEachSize(t *testing.T) {
	l := []api.Bucket{{Name: "a", Root: 5, Keys: 3}}
	for size := -200; size <= 9000; size++ {
		good := size >= 128 && size <= 4096 && size%64 == 0
		for _, l := range [][]api.Bucket{nil, l} {
			p := told(size, 7, 5, l)
			if good {
				wantPage(t, size, 7, 5, l, p)
				wantBuckets(t, p, l)
				continue
			}
			wantNoPage(t, size, 7, 5, l)
			if length := size - 24; length >= 0 && length == len(p.Body) {
				wantNoBuckets(t, p)
			}
		}
	}
	for _, size := range wrongSizes {
		wantNoPage(t, size, 7, 5, nil)
		wantNoPage(t, size, 7, 5, l)
		wantNoPage(t, size, 7, 5, named(lost))
	}
}

// Of each size, buckets take what they may, or a byte more; lost+found is not counted, but only it is not.
func TestWhatFits(t *testing.T) {
	for size := 128; size <= 4096; size += 64 {
		firsts := []byte{0}
		if size < 1000 { // there are not as many first bytes as a greater size asks for
			firsts = []byte{0, 'm'}
		}
		for _, first := range firsts {
			full, over := filled(most(size), first), filled(most(size)+1, first)
			for _, l := range [][]api.Bucket{full, withLost(full, 0, 0), withLost(full, 9, 9)} {
				wantPage(t, size, 7, 5, l, told(size, 7, 5, l))
				wantBuckets(t, told(size, 7, 5, l), l)
			}
			for _, l := range [][]api.Bucket{over, withLost(over, 0, 0), withLost(over, 9, 9)} {
				wantNoPage(t, size, 7, 5, l)
				wantNoBuckets(t, told(size, 7, 5, l))
			}
		}
		for _, name := range []string{"lost+foun", "lost+Found", "lost+founD", "lost+found\x00", "lost-found", "LOST+FOUND"} {
			l := filled(most(size), 0)
			l = append(l, api.Bucket{Name: name})
			slices.SortFunc(l, func(a, b api.Bucket) int { return strings.Compare(a.Name, b.Name) })
			wantNoPage(t, size, 7, 5, l)
		}
	}
}

// What a page has room for is more than what it may say, as the room of lost+found is kept.
func TestOfOfPagesThatAreTooFull(t *testing.T) {
	for _, size := range goodSizes {
		for bytes := most(size) + 1; bytes <= size-24; bytes++ {
			p := told(size, 7, 5, filled(bytes, 0))
			if len(p.Body) != size-24 {
				t.Fatalf("size %d: a body of %d bytes", size, len(p.Body))
			}
			wantNoBuckets(t, p)
		}
	}
}

func TestOfOfWrongBuckets(t *testing.T) {
	for _, size := range goodSizes {
		for _, l := range wrongLists(size) {
			same := slices.ContainsFunc(l, func(b api.Bucket) bool {
				return len(b.Name) > 255 || b.Keys < 0 || b.Keys > math.MaxUint32
			})
			if !same { // of others, a page would say something else
				wantNoBuckets(t, told(size, 7, 5, l))
			}
		}
	}
}

func TestOfOfWrongHeaders(t *testing.T) {
	for _, size := range goodSizes {
		for _, l := range lists(size)[:12] {
			wrong := func(change func(*api.Page)) {
				p := told(size, 7, 5, l)
				change(&p)
				wantNoBuckets(t, p)
			}
			for _, kind := range []int{0, -1, 1, 3, 4, 5, 6, 7, 258, 1<<32 + 2, math.MinInt, math.MaxInt} {
				wrong(func(p *api.Page) { p.Kind = kind })
			}
			for _, n := range []uint32{1, 2, 7, 8, 1 << 31, math.MaxUint32} {
				wrong(func(p *api.Page) { p.Link = n })
			}
			for _, n := range []uint32{0, 1, 1 << 31, 1<<31 + 7, math.MaxUint32} {
				wrong(func(p *api.Page) { p.Page = n })
			}
			for _, tx := range []uint64{1<<62 + 1, 1 << 63, 1<<63 + 5, math.MaxUint64} {
				wrong(func(p *api.Page) { p.Tx = tx })
			}
			for _, count := range []int{-1, 13, 255, 65535, 65536, 65536 + len(l), 1<<32 + len(l), math.MinInt, math.MaxInt, len(l) - 1, len(l) + 1, -len(l) - 1} {
				wrong(func(p *api.Page) { p.Count = count })
			}
		}
	}
}

// A body with more or less room is one of another size, which is good or not, and in which the buckets fit or not.
func TestOfOfOtherLengths(t *testing.T) {
	for _, size := range []int{128, 192, 1024, 4096} {
		for _, l := range [][]api.Bucket{nil, named("a", "b"), filled(most(size), 0), withLost(filled(most(size), 0), 2, 1)} {
			p := told(size, 7, 5, l)
			said := len(strings.TrimRight(p.Body, "\x00"))
			for length := range 4300 {
				q := p
				q.Body = p.Body[:min(length, len(p.Body))] + strings.Repeat("\x00", max(length-len(p.Body), 0))
				other := length + 24
				good := other >= 128 && other <= 4096 && other%64 == 0
				if good && length >= said && catalog.Size(catalog.Del(l, lost)) <= most(other) {
					wantBuckets(t, q, l)
				} else {
					wantNoBuckets(t, q)
				}
			}
		}
	}
	for _, p := range []api.Page{{}, {Kind: 2, Page: 2}, {Kind: 2, Page: 2, Count: math.MaxInt}, {Kind: 2, Page: 2, Count: math.MaxInt32, Body: strings.Repeat("\x00", 1<<20)}} {
		wantNoBuckets(t, p)
	}
}

// Bodies that end within a bucket, whichever part of it.
func TestOfOfBodiesThatEndEarly(t *testing.T) {
	for _, size := range goodSizes {
		for last := 1; last <= 25; last++ {
			whole := told(size, 7, 5, filled(size-24-last, 0))
			for _, rest := range []string{"\x10" + strings.Repeat("\xfe", 24), "\x01\xfe" + strings.Repeat("\x00", 23), strings.Repeat("\xff", 25), strings.Repeat("\x00", 25), "\x09" + strings.Repeat("\xfe", 24)} {
				p := whole
				p.Count++
				p.Body = p.Body[:size-24-last] + rest[:last]
				wantNoBuckets(t, p)
				p.Count++
				wantNoBuckets(t, p)
			}
		}
	}
}

func TestOfOfWrongBodies(t *testing.T) {
	for _, size := range goodSizes {
		for _, count := range []int{0, 1, 2, 5, 407, 65535, math.MaxInt} {
			for _, c := range []string{"\x01", "\x10", "a", "\xff"} {
				wantNoBuckets(t, api.Page{Kind: 2, Count: count, Page: 7, Tx: 5, Body: strings.Repeat(c, size-24)})
			}
			if count > 0 {
				wantNoBuckets(t, api.Page{Kind: 2, Count: count, Page: 7, Tx: 5, Body: strings.Repeat("\x00", size-24)})
			}
		}
		p := told(size, 7, 5, named("a", "b"))
		for _, body := range []string{p.Body[1:] + "\x00", "\x00" + p.Body[1:], p.Body[:10] + "\x00" + p.Body[10:size-25], p.Body[10:20] + p.Body[:10] + p.Body[20:]} {
			q := p
			q.Body = body
			wantNoBuckets(t, q)
		}
	}
}

// A change after the buckets makes no page of any; one within them may, but then of others.
func TestEachByteOfTheBodyCounts(t *testing.T) {
	for _, size := range []int{128, 256, 4096} {
		l := []api.Bucket{{Name: "ab", Root: 0x112233, Keys: 0x223344}, {Name: "c"}, {Name: lost, Root: 3, Keys: 4}}
		p := told(size, 7, 5, l)
		for i := range p.Body {
			for _, turn := range []byte{1, 2, 16, 128, 255} {
				b := []byte(p.Body)
				b[i] ^= turn
				q := p
				q.Body = string(b)
				got, e := catalog.Of(q)
				if i >= catalog.Size(l) {
					wantNoBuckets(t, q)
				} else if slices.Equal(got, l) || e == api.OK && told(size, 7, 5, got) != q {
					t.Errorf("size %d: byte %d turned by %d does not count: %+v", size, i, turn, got)
				}
			}
		}
	}
}

func TestOfReturnsNewBuckets(t *testing.T) {
	p := told(128, 7, 5, named("a", "b"))
	l, _ := catalog.Of(p)
	for i := range l[:cap(l)] {
		l[:cap(l)][i] = api.Bucket{Name: "changed"}
	}
	wantBuckets(t, p, named("a", "b"))
}

// P6.2

// found returns what Find is to return.
func found(l []api.Bucket, name string) (int, bool) {
	for i := range l {
		if l[i].Name == name {
			return i, true
		}
	}
	i := 0
	for i < len(l) && l[i].Name < name {
		i++
	}
	return i, false
}

// anyLists are all lists of up to 4 buckets with some names, valid or not, and further ones. Buckets of the same name differ.
func anyLists() [][]api.Bucket {
	all := [][]api.Bucket{nil}
	for i := 0; i < len(all); i++ {
		if l := all[i]; len(l) < 4 {
			for _, name := range []string{"", "a", "b", "\xff"} {
				n := len(l)
				all = append(all, append(slices.Clip(slices.Clone(l)), api.Bucket{Name: name, Root: uint32(n), Keys: -n}))
			}
		}
	}
	for _, size := range goodSizes {
		all = append(all, lists(size)...)
		all = append(all, wrongLists(size)...)
	}
	return all
}

var sought = []string{"", "\x00", "A", "a", "a\x00", "b", "lost", lost, "lost+found\x00", "m", "\x80", "\xff", "\xff\xff", strings.Repeat("n", 16), strings.Repeat("n", 17), strings.Repeat("z", 300)}

func TestFind(t *testing.T) {
	for _, l := range anyLists() {
		for _, name := range sought {
			want, is := found(l, name)
			if i, there := catalog.Find(l, name); i != want || there != is {
				t.Errorf("%q in %+v: %d %v, not %d %v", name, l, i, there, want, is)
			}
		}
	}
}

func TestFindOfSomeBuckets(t *testing.T) {
	tests := []struct {
		l     []api.Bucket
		name  string
		i     int
		there bool
	}{
		{nil, "a", 0, false},
		{nil, "", 0, false},
		{named("a", "c"), "a", 0, true},
		{named("a", "c"), "b", 1, false},
		{named("a", "c"), "c", 1, true},
		{named("a", "c"), "d", 2, false},
		{named("a", "c"), "", 0, false},
		{named("a", "c"), "A", 0, false},
		{named("a", "c"), "a\x00", 1, false},
		{named("c", "a"), "a", 1, true},
		{named("c", "a"), "b", 0, false},
		{named("a", "c", "b", "d"), "b", 2, true},
		{named("a", "c", "a", "d"), "b", 1, false},
		{named("a", "a", "a"), "a", 0, true},
		{named("b", "a", "a"), "a", 1, true},
		{named("\x7f", "\x80"), "\x80", 1, true},
		{named("\x7f", "\x81"), "\x80", 1, false},
	}
	for _, c := range tests {
		if i, there := catalog.Find(c.l, c.name); i != c.i || there != c.there {
			t.Errorf("%q in %+v: %d %v", c.name, c.l, i, there)
		}
	}
}

func TestSet(t *testing.T) {
	for _, l := range anyLists() {
		for _, name := range sought {
			b := api.Bucket{Name: name, Root: 77, Keys: 78}
			i, there := found(l, name)
			want := append(slices.Clone(l[:i]), b)
			if there {
				want = append(want, l[i+1:]...)
			} else {
				want = append(want, l[i:]...)
			}
			if got := catalog.Set(l, b); !slices.Equal(got, want) {
				t.Errorf("%q set in %+v: %+v", name, l, got)
			}
		}
	}
}

func TestDel(t *testing.T) {
	for _, l := range anyLists() {
		for _, name := range sought {
			i, there := found(l, name)
			want := slices.Clone(l)
			if there {
				want = append(slices.Clone(l[:i]), l[i+1:]...)
			}
			if got := catalog.Del(l, name); !slices.Equal(got, want) {
				t.Errorf("%q deleted in %+v: %+v", name, l, got)
			}
		}
	}
}

func TestSetAndDelOfSomeBuckets(t *testing.T) {
	b := api.Bucket{Name: "b", Root: 0, Keys: -5}
	l := []api.Bucket{{Name: "a", Root: 4, Keys: 4}, {Name: "c", Root: 5, Keys: 5}}
	set := catalog.Set(l, b)
	if want := []api.Bucket{l[0], b, l[1]}; !slices.Equal(set, want) {
		t.Errorf("inserted: %+v", set)
	}
	again := catalog.Set(set, api.Bucket{Name: "b", Root: 9, Keys: 9})
	if want := []api.Bucket{l[0], {Name: "b", Root: 9, Keys: 9}, l[1]}; !slices.Equal(again, want) {
		t.Errorf("in place: %+v", again)
	}
	if got := catalog.Del(again, "b"); !slices.Equal(got, l) {
		t.Errorf("deleted: %+v", got)
	}
	if got := catalog.Del(l, "b"); !slices.Equal(got, l) {
		t.Errorf("nothing deleted: %+v", got)
	}
	if got := catalog.Set(nil, b); !slices.Equal(got, []api.Bucket{b}) {
		t.Errorf("the first: %+v", got)
	}
	if got := catalog.Del(nil, "b"); len(got) != 0 {
		t.Errorf("deleted in none: %+v", got)
	}
}

// Lists that end within their memory: neither what they hold nor what follows is changed or returned.
func TestSetAndDelLeaveWhatTheyAreGiven(t *testing.T) {
	memory := named("a", "c", "e", "g", "i", "k")
	given := slices.Clone(memory)
	for length := range len(memory) + 1 {
		for _, name := range []string{"", "a", "b", "c", "f", "g", "k", "z"} {
			l := memory[:length]
			for _, got := range [][]api.Bucket{catalog.Set(l, api.Bucket{Name: name, Root: 9}), catalog.Del(l, name)} {
				want := slices.Clone(got)
				if !slices.Equal(memory, given) {
					t.Fatalf("%d buckets, %q: changed to %+v", length, name, memory)
				}
				for i := range memory {
					memory[i].Root = 99
				}
				if !slices.Equal(got, want) {
					t.Errorf("%d buckets, %q: the result changed to %+v", length, name, got)
				}
				copy(memory, given)
				for i := range got[:cap(got)] {
					got[:cap(got)][i] = api.Bucket{Name: "changed"}
				}
				if !slices.Equal(memory, given) {
					t.Fatalf("%d buckets, %q: changed by the result to %+v", length, name, memory)
				}
			}
		}
	}
}

// P6.3

func TestOfOfPageIsTheBuckets(t *testing.T) {
	for _, size := range goodSizes {
		for _, l := range lists(size) {
			p, e := catalog.Page(size, 9, 11, l)
			if e != api.OK {
				t.Errorf("size %d, %+v: %d", size, l, e)
			}
			wantBuckets(t, p, l)
			block, e := frame.Put(size, p)
			if e != api.OK {
				t.Errorf("size %d, %+v: its page cannot be put: %d", size, l, e)
			}
			q, e := frame.Get(size, 9, block)
			if q != p || e != api.OK {
				t.Errorf("size %d, %+v: its page is read as %+v %d", size, l, q, e)
			}
		}
	}
}

func TestLostAndFoundAlwaysFits(t *testing.T) {
	for _, size := range goodSizes {
		for _, l := range lists(size) {
			for _, b := range []api.Bucket{{Name: api.Lost}, {Name: api.Lost, Root: 2, Keys: 1}, {Name: api.Lost, Root: math.MaxInt32, Keys: math.MaxInt32}} {
				more := catalog.Set(l, b)
				p, e := catalog.Page(size, 9, 11, more)
				if e != api.OK {
					t.Errorf("size %d: lost+found does not fit into %+v: %d", size, l, e)
				}
				wantBuckets(t, p, more)
			}
			less := catalog.Del(l, api.Lost)
			wantPage(t, size, 9, 11, less, told(size, 9, 11, less))
		}
	}
}

// listOf makes buckets of bytes: each a length, a name, and the numbers.
func listOf(s string) []api.Bucket {
	var l []api.Bucket
	for len(s) > 0 {
		length := int(s[0] % 20)
		s = s[1:]
		if len(s) < length+8 {
			break
		}
		b := []byte(s[length : length+8])
		l = append(l, api.Bucket{Name: s[:length], Root: binary.LittleEndian.Uint32(b), Keys: int(int32(binary.LittleEndian.Uint32(b[4:])))})
		s = s[length+8:]
	}
	return l
}

func isValid(size int, l []api.Bucket) bool {
	if size < 128 || size > 4096 || size%64 != 0 {
		return false
	}
	bytes := 0
	for i, b := range l {
		empty := b.Root == 0 && b.Keys == 0
		full := b.Root >= 2 && b.Root <= 1<<31-1 && b.Keys >= 1 && b.Keys <= 1<<31-1
		if b.Name == "" || len(b.Name) > 16 || !empty && !full || i > 0 && strings.Compare(l[i-1].Name, b.Name) >= 0 {
			return false
		}
		if b.Name != lost {
			bytes += len(b.Name) + 9
		}
	}
	return bytes <= size-43
}

func FuzzPage(f *testing.F) {
	for _, l := range lists(128) {
		f.Add(128, uint32(7), uint64(5), told(0, 7, 5, l).Body, false)
		f.Add(4096, uint32(7), uint64(5), told(0, 7, 5, l).Body, true)
	}
	f.Fuzz(func(t *testing.T, size int, n uint32, tx uint64, s string, sorted bool) {
		l := listOf(s)
		if sorted {
			slices.SortFunc(l, func(a, b api.Bucket) int { return strings.Compare(a.Name, b.Name) })
		}
		if !isValid(size, l) || n < 2 || n > 1<<31-1 || tx > 1<<62 {
			wantNoPage(t, size, n, tx, l)
			return
		}
		wantPage(t, size, n, tx, l, told(size, n, tx, l))
		wantBuckets(t, told(size, n, tx, l), l)
	})
}

func FuzzOf(f *testing.F) {
	for _, l := range lists(128) {
		f.Add(2, len(l), uint32(7), uint32(0), uint64(5), told(128, 7, 5, l).Body)
	}
	f.Add(9, -1, uint32(1), uint32(9), uint64(math.MaxUint64), "")
	f.Fuzz(func(t *testing.T, kind, count int, n, link uint32, tx uint64, body string) {
		if len(body) > 0 && len(body) < 104 {
			body += strings.Repeat("\x00", 104-len(body))
		}
		p := api.Page{Kind: kind, Count: count, Page: n, Link: link, Tx: tx, Body: body}
		l, e := catalog.Of(p)
		if e != api.OK {
			wantNoBuckets(t, p)
			return
		}
		size := len(body) + 24
		if !isValid(size, l) || n < 2 || n > 1<<31-1 || tx > 1<<62 || told(size, n, tx, l) != p {
			t.Errorf("Of %+v: %+v", p, l)
		}
	})
}
