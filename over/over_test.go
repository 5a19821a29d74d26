package over_test

import (
	"math"
	"math/big"
	"slices"
	"strings"
	"testing"
	"unsafe"

	"careenage/api"
	"careenage/frame"
	"careenage/over"
)

var (
	goodSizes  = []int{128, 192, 256, 1024, 4032, 4096}
	wrongSizes = []int{0, 1, 23, 24, 25, 29, 64, 127, 129, 191, 4095, 4097, 4160, 1<<16 + 128, 1<<32 + 128, -1, -24, -128, math.MinInt, math.MinInt + 24, math.MinInt + 128, math.MaxInt, math.MaxInt - 63}
)

// text is a value of a length in which a piece that is at another place than it should be shows.
func text(length int) string {
	b := make([]byte, length)
	for i := range b {
		b[i] = byte(1 + i%251)
	}
	return string(b)
}

// lasts are bytes that have room in a page of a size, and need not fill it.
func lasts(size int) []string {
	room := size - 24
	return []string{
		"a", "ab", "\x00", "\xff", "\x00\x00\x00", "a\x00", "\x00a", "日本\x80\n",
		text(room - 1), strings.Repeat("\x00", room-1), text(room - 1)[:room-2] + "\x00",
		text(room / 2), text(room), strings.Repeat("\x00", room),
	}
}

// fulls are bytes that fill a page of a size.
func fulls(size int) []string {
	room := size - 24
	return []string{
		text(room), strings.Repeat("\x00", room), strings.Repeat("\xff", room),
		text(room-1) + "\x00", "\x00" + text(room-1), "a" + strings.Repeat("\x00", room-1), strings.Repeat("\x00", room-1) + "a",
	}
}

// numbers tell whether there can be a page of a part with them.
var numbers = map[uint32]bool{0: false, 1: false, 2: true, 3: true, 7: true, 256: true, 65537: true, 1<<31 - 2: true, 1<<31 - 1: true, 1 << 31: false, 1<<31 + 2: false, math.MaxUint32: false}

var txs = map[uint64]bool{0: true, 1: true, 1 << 32: true, 1<<53 + 1: true, 1<<62 - 1: true, 1 << 62: true, 1<<62 + 1: false, 1 << 63: false, math.MaxUint64: false}

// told is what the page of bytes says, whether they are valid or not. Its body has the length for the page size, also if it has no room for all of them.
func told(size int, n, next uint32, tx uint64, bytes string) api.Page {
	room := max(size-24, 0)
	body := (bytes + strings.Repeat("\x00", max(room-len(bytes), 0)))[:room]
	return api.Page{Kind: 5, Count: len(bytes), Page: n, Link: next, Tx: tx, Body: body}
}

func wantPage(t *testing.T, size int, n, next uint32, tx uint64, bytes string, want api.Page) {
	t.Helper()
	if p, e := over.Page(size, n, next, tx, bytes); p != want || e != api.OK {
		t.Errorf("Page of size %d, %d, %d, %d, %q:\n%+v %d, not\n%+v", size, n, next, tx, bytes, p, e, want)
	}
}

func wantNoPage(t *testing.T, size int, n, next uint32, tx uint64, bytes string) {
	t.Helper()
	if p, e := over.Page(size, n, next, tx, bytes); p != (api.Page{}) || e != api.ErrArg {
		t.Errorf("Page of size %d, %d, %d, %d, %d bytes: %+v %d", size, n, next, tx, len(bytes), p, e)
	}
}

func wantBytes(t *testing.T, p api.Page, want string, wantNext uint32) {
	t.Helper()
	if s, next, e := over.Of(p); s != want || next != wantNext || e != api.OK {
		t.Errorf("Of %+v:\n%q %d %d, not\n%q %d", p, s, next, e, want, wantNext)
	}
}

func wantNoBytes(t *testing.T, p api.Page) {
	t.Helper()
	if s, next, e := over.Of(p); s != "" || next != 0 || e != api.ErrBad {
		t.Errorf("Of %+v: %q %d %d", p, s, next, e)
	}
}

// wantAll asks that there is a page of these bytes, and that it is read.
func wantAll(t *testing.T, size int, n, next uint32, tx uint64, bytes string) {
	t.Helper()
	p := told(size, n, next, tx, bytes)
	wantPage(t, size, n, next, tx, bytes, p)
	wantBytes(t, p, bytes, next)
}

// wantNone asks that there is no page of these bytes, and that what it would be is not read.
func wantNone(t *testing.T, size int, n, next uint32, tx uint64, bytes string) {
	t.Helper()
	wantNoPage(t, size, n, next, tx, bytes)
	wantNoBytes(t, told(size, n, next, tx, bytes))
}

// cut returns the parts of a value, cut a second time: whole pages as long as there are, then what is left.
func cut(size int, value string) []string {
	var l []string
	for len(value) > size-24 {
		l = append(l, value[:size-24])
		value = value[size-24:]
	}
	if value != "" {
		l = append(l, value)
	}
	return l
}

// P9.1

func TestNeed(t *testing.T) {
	tests := []struct{ size, n, want int }{
		{128, 104, 1}, // the examples of the document
		{128, 105, 2},
		{128, 0, 0},
		{128, -1, 0},
		{128, -104, 0},
		{128, -1000, 0},
		{128, math.MinInt, 0},
		{128, math.MinInt + 1, 0},
		{128, 1, 1},
		{128, 103, 1},
		{128, 208, 2},
		{128, 209, 3},
		{128, 4096, 40},
		{4096, 1, 1},
		{4096, 4072, 1},
		{4096, 4073, 2},
		{4096, 4096, 2},
		{256, 232, 1},
		{256, 233, 2},
		{128, 1<<31 - 1, 20648882},
	}
	for _, c := range tests {
		if got := over.Need(c.size, c.n); got != c.want {
			t.Errorf("%d bytes in size %d: %d, not %d", c.n, c.size, got, c.want)
		}
	}
}

func TestNeedOfEachSize(t *testing.T) {
	for size := -200; size <= 9000; size++ {
		for _, n := range []int{-1, 0, 1, 103, 104, 105, 4072, 4073, 8145} {
			want := 0
			if size >= 128 && size <= 4096 && size%64 == 0 {
				want = int(math.Ceil(float64(max(n, 0)) / float64(size-24)))
			}
			if got := over.Need(size, n); got != want {
				t.Errorf("%d bytes in size %d: %d, not %d", n, size, got, want)
			}
		}
	}
	for _, size := range wrongSizes {
		for _, n := range []int{math.MinInt, -1, 0, 1, 104, 4096, math.MaxInt} {
			if got := over.Need(size, n); got != 0 {
				t.Errorf("%d bytes in size %d: %d", n, size, got)
			}
		}
	}
}

// Held against integers that do not overflow.
func TestNeedOfGreatNumbers(t *testing.T) {
	for _, size := range goodSizes {
		for less := range 5000 {
			n := math.MaxInt - less
			whole, left := new(big.Int).QuoRem(big.NewInt(int64(n)), big.NewInt(int64(size-24)), new(big.Int))
			if left.Sign() > 0 {
				whole.Add(whole, big.NewInt(1))
			}
			if got := over.Need(size, n); int64(got) != whole.Int64() {
				t.Errorf("%d bytes in size %d: %d, not %d", n, size, got, whole)
			}
		}
	}
}

func TestParts(t *testing.T) {
	full := text(104)
	tests := []struct {
		size  int
		value string
		want  []string
	}{
		{128, "", nil},
		{128, "a", []string{"a"}},
		{128, "\x00", []string{"\x00"}},
		{128, full[:103], []string{full[:103]}},
		{128, full, []string{full}},
		{128, full + "b", []string{full, "b"}},
		{128, full + full, []string{full, full}},
		{128, full + full + "日", []string{full, full, "日"}},
		{128, full[:103] + "ä", []string{full[:103] + "\xc3", "\xa4"}},
		{192, full + full, []string{full + full[:64], full[64:]}},
		{4096, text(4072), []string{text(4072)}},
		{4096, text(4073), []string{text(4072), text(4073)[4072:]}},
	}
	for _, c := range tests {
		if got := slices.Collect(over.Parts(c.size, c.value)); !slices.Equal(got, c.want) {
			t.Errorf("%d bytes in size %d: %q, not %q", len(c.value), c.size, got, c.want)
		}
	}
}

func TestPartsOfWrongSizes(t *testing.T) {
	sizes := slices.Clone(wrongSizes)
	for size := -200; size <= 9000; size++ {
		if size < 128 || size > 4096 || size%64 != 0 {
			sizes = append(sizes, size)
		}
	}
	for _, size := range sizes {
		for _, value := range []string{"", "a", text(5000)} {
			for part := range over.Parts(size, value) {
				t.Fatalf("%d bytes in size %d: %q", len(value), size, part)
			}
		}
	}
}

// A range that ends early gets no more parts, and one that comes after it gets all of them.
func TestPartsOfSeveralRanges(t *testing.T) {
	value := text(1000)
	want := cut(128, value)
	parts := over.Parts(128, value)
	for stop := range len(want) + 1 {
		var got []string
		for part := range parts {
			if len(got) == stop {
				break
			}
			got = append(got, part)
		}
		if !slices.Equal(got, want[:stop]) {
			t.Errorf("%d parts: %q", stop, got)
		}
	}
	for outer := range parts {
		if inner := slices.Collect(parts); !slices.Equal(inner, want) || !slices.Contains(want, outer) {
			t.Errorf("within %q: %q", outer, inner)
		}
	}
}

func TestPageLaysOutTheBytes(t *testing.T) {
	p := api.Page{Kind: 5, Count: 3, Page: 7, Link: 0, Tx: 5, Body: "abc" + strings.Repeat("\x00", 101)}
	wantPage(t, 128, 7, 0, 5, "abc", p)
	wantBytes(t, p, "abc", 0)
	p = api.Page{Kind: 5, Count: 104, Page: 7, Link: 8, Tx: 5, Body: text(104)}
	wantPage(t, 128, 7, 8, 5, text(104), p)
	wantBytes(t, p, text(104), 8)
	p.Link = 0
	wantPage(t, 128, 7, 0, 5, text(104), p)
	wantBytes(t, p, text(104), 0)
}

func TestPageOfNumbersAndTransactions(t *testing.T) {
	for _, size := range []int{128, 192, 4096} {
		for n, right := range numbers {
			for next, goesOn := range numbers {
				for tx, good := range txs {
					for _, bytes := range []string{"a", text(size - 24), text(size - 25)} {
						fits := next == 0 || goesOn && len(bytes) == size-24
						if right && good && fits {
							wantAll(t, size, n, next, tx, bytes)
						} else {
							wantNone(t, size, n, next, tx, bytes)
						}
					}
				}
			}
		}
	}
}

func TestPageOfBytes(t *testing.T) {
	for _, size := range goodSizes {
		for _, bytes := range lasts(size) {
			wantAll(t, size, 7, 0, 5, bytes)
		}
		for _, bytes := range fulls(size) {
			wantAll(t, size, 7, 0, 5, bytes)
			for _, next := range []uint32{2, 6, 7, 8, math.MaxInt32} {
				wantAll(t, size, 7, next, 5, bytes)
			}
		}
	}
}

func TestPageOfEachLength(t *testing.T) {
	for _, size := range []int{128, 192, 1024, 4096} {
		for length := range 4400 {
			if length >= 1 && length <= size-24 {
				wantAll(t, size, 7, 0, 5, text(length))
			} else {
				wantNone(t, size, 7, 0, 5, text(length))
			}
			if length == size-24 {
				wantAll(t, size, 7, 8, 5, text(length))
			} else {
				wantNone(t, size, 7, 8, 5, text(length))
			}
		}
		for _, length := range []int{1<<16 + 1, 1<<16 + 104, 1 << 20} {
			wantNone(t, size, 7, 0, 5, text(length))
			wantNone(t, size, 7, 8, 5, text(length))
		}
	}
}

func TestPageOfEachSize(t *testing.T) {
	for size := -200; size <= 9000; size++ {
		for _, bytes := range []string{"a", text(104), text(max(size-24, 0))} {
			good := size >= 128 && size <= 4096 && size%64 == 0
			if good && bytes != "" {
				wantAll(t, size, 7, 0, 5, bytes)
			} else {
				wantNone(t, size, 7, 0, 5, bytes)
			}
			if good && len(bytes) == size-24 {
				wantAll(t, size, 7, 8, 5, bytes)
			} else {
				wantNone(t, size, 7, 8, 5, bytes)
			}
		}
	}
	for _, size := range wrongSizes {
		for _, bytes := range []string{"", "a", text(104), text(4096)} {
			wantNoPage(t, size, 7, 0, 5, bytes)
			wantNoPage(t, size, 7, 8, 5, bytes)
		}
	}
}

func TestOfOfWrongHeaders(t *testing.T) {
	for _, size := range goodSizes {
		for _, right := range []api.Page{told(size, 7, 0, 5, "abc"), told(size, 7, 0, 5, text(size-24)), told(size, 7, 8, 5, text(size-24))} {
			wrong := func(change func(*api.Page)) {
				p := right
				change(&p)
				wantNoBytes(t, p)
			}
			for _, kind := range []int{0, -1, 1, 2, 3, 4, 6, 7, -5, 261, 1<<32 + 5, math.MinInt, math.MaxInt} {
				wrong(func(p *api.Page) { p.Kind = kind })
			}
			for _, count := range []int{0, -1, right.Count - 1, size - 23, size - 22, size, 65535, 65536, 65536 + right.Count, 1<<32 + right.Count, -right.Count, math.MinInt, math.MaxInt} {
				wrong(func(p *api.Page) { p.Count = count })
			}
			for _, n := range []uint32{0, 1, 1 << 31, 1<<31 + 7, math.MaxUint32} {
				wrong(func(p *api.Page) { p.Page = n })
			}
			for _, n := range []uint32{1, 1 << 31, 1<<31 + 8, math.MaxUint32} {
				wrong(func(p *api.Page) { p.Link = n })
			}
			for _, tx := range []uint64{1<<62 + 1, 1 << 63, 1<<63 + 5, math.MaxUint64} {
				wrong(func(p *api.Page) { p.Tx = tx })
			}
		}
	}
	wantNoBytes(t, api.Page{})
	wantNoBytes(t, api.Page{Kind: 5, Page: 7})
	wantNoBytes(t, api.Page{Kind: 5, Page: 7, Count: 1})
	wantNoBytes(t, api.Page{Kind: 5, Page: 7, Count: 1, Body: "a"})
	wantNoBytes(t, api.Page{Kind: 5, Page: 7, Count: math.MaxInt32, Body: text(1 << 20)})
}

// The Count tells how many bytes of a body count: what is behind them has to be zero, and less than all of them end a chain.
func TestOfOfOtherCounts(t *testing.T) {
	for _, size := range goodSizes {
		for _, bytes := range append(lasts(size), fulls(size)...) {
			for _, next := range []uint32{0, 8} {
				p := told(size, 7, next, 5, bytes)
				for count := -2; count < size+2; count++ {
					p.Count = count
					inside := count >= 1 && count <= size-24
					if inside && strings.Trim(p.Body[count:], "\x00") == "" && (next == 0 || count == size-24) {
						wantBytes(t, p, p.Body[:count], next)
					} else {
						wantNoBytes(t, p)
					}
				}
			}
		}
	}
}

// A body with more or less room is one of another size, which is good or not.
func TestOfOfOtherLengths(t *testing.T) {
	for _, size := range []int{128, 192, 1024, 4096} {
		for _, p := range []api.Page{told(size, 7, 0, 5, "abc"), told(size, 7, 0, 5, text(size-24)), told(size, 7, 8, 5, text(size-24))} {
			for length := range 4300 {
				q := p
				q.Body = p.Body[:min(length, len(p.Body))] + strings.Repeat("\x00", max(length-len(p.Body), 0))
				other := length + 24
				good := other >= 128 && other <= 4096 && other%64 == 0
				if good && length >= p.Count && (p.Link == 0 || length == p.Count) {
					wantBytes(t, q, p.Body[:p.Count], p.Link)
				} else {
					wantNoBytes(t, q)
				}
			}
		}
	}
}

func TestEachByteOfTheBodyCounts(t *testing.T) {
	for _, size := range []int{128, 256, 4096} {
		for _, bytes := range []string{"abc", text(size - 25), text(size - 24)} {
			p := told(size, 7, 0, 5, bytes)
			for i := range p.Body {
				for _, turn := range []byte{1, 128, 255} {
					b := []byte(p.Body)
					b[i] ^= turn
					q := p
					q.Body = string(b)
					if i < len(bytes) {
						wantBytes(t, q, q.Body[:len(bytes)], 0)
					} else {
						wantNoBytes(t, q)
					}
				}
			}
		}
	}
}

// shares reports whether two strings have memory in common.
func shares(a, b string) bool {
	from, other := uintptr(unsafe.Pointer(unsafe.StringData(a))), uintptr(unsafe.Pointer(unsafe.StringData(b)))
	return from < other+uintptr(len(b)) && other < from+uintptr(len(a))
}

// What is returned keeps nothing of what was passed in memory.
func TestResultsAreNewMemory(t *testing.T) {
	value := text(1000)
	for part := range over.Parts(128, value) {
		if shares(part, value) {
			t.Errorf("a part of %d bytes is one of the value's own", len(part))
		}
	}
	for _, bytes := range []string{text(104), text(50)} {
		p, _ := over.Page(128, 7, 0, 5, bytes)
		if shares(p.Body, bytes) {
			t.Errorf("the body of %d bytes is their own", len(bytes))
		}
		if s, _, _ := over.Of(p); shares(s, p.Body) {
			t.Errorf("%d bytes are the body's own", len(bytes))
		}
	}
}

// P9.2

func TestOfOfPage(t *testing.T) {
	for _, size := range goodSizes {
		for n, right := range numbers {
			for tx, good := range txs {
				if !right || !good {
					continue
				}
				for _, bytes := range lasts(size) {
					p, e := over.Page(size, n, 0, tx, bytes)
					if e != api.OK {
						t.Errorf("Page of %q: %d", bytes, e)
					}
					wantBytes(t, p, bytes, 0)
				}
				for next, goesOn := range numbers {
					if !goesOn {
						continue
					}
					p, e := over.Page(size, n, next, tx, text(size-24))
					if e != api.OK {
						t.Errorf("Page before %d: %d", next, e)
					}
					wantBytes(t, p, text(size-24), next)
				}
			}
		}
	}
}

func TestPartsAreTheValue(t *testing.T) {
	for size := 128; size <= 4096; size += 64 {
		room := size - 24
		for _, length := range []int{0, 1, 2, room - 1, room, room + 1, 2*room - 1, 2 * room, 2*room + 1, 3*room + 7, 4096, 20000} {
			value := text(length)
			parts := slices.Collect(over.Parts(size, value))
			if strings.Join(parts, "") != value || !slices.Equal(parts, cut(size, value)) {
				t.Errorf("%d bytes in size %d: %q", length, size, parts)
			}
			if got := over.Need(size, length); got != len(parts) {
				t.Errorf("%d bytes in size %d: %d, not %d", length, size, got, len(parts))
			}
		}
	}
}

func TestPartsOfEachLength(t *testing.T) {
	for _, size := range []int{128, 192, 4096} {
		whole := text(5000)
		for length := range len(whole) {
			value := whole[:length]
			parts := slices.Collect(over.Parts(size, value))
			if strings.Join(parts, "") != value || len(parts) != over.Need(size, length) {
				t.Errorf("%d bytes in size %d: %d parts", length, size, len(parts))
			}
			for i, part := range parts {
				if len(part) == 0 || len(part) > size-24 || i < len(parts)-1 && len(part) != size-24 {
					t.Errorf("%d bytes in size %d: part %d has %d bytes", length, size, i, len(part))
				}
			}
		}
	}
}

// The parts of a value, written as the pages of a chain and read again from their blocks, are the value.
func TestPagesOfAValue(t *testing.T) {
	for _, size := range goodSizes {
		for _, length := range []int{1, 104, 105, 208, 300, 4072, 4073, 4096} {
			var image string
			n, last := uint32(2), uint32(1+over.Need(size, length))
			for part := range over.Parts(size, text(length)) {
				next := n + 1
				if n == last {
					next = 0
				}
				p, e := over.Page(size, n, next, 5, part)
				block, f := frame.Put(size, p)
				if e != api.OK || f != api.OK {
					t.Fatalf("page %d of %d bytes in size %d: %d %d", n, length, size, e, f)
				}
				image += block
				n++
			}
			image = strings.Repeat("\x00", 2*size) + image
			var value string
			for n = 2; n != 0; {
				p, e := frame.Read(size, image, n)
				bytes, next, f := over.Of(p)
				if e != api.OK || f != api.OK {
					t.Fatalf("page %d of %d bytes in size %d: %d %d", n, length, size, e, f)
				}
				value += bytes
				n = next
			}
			if value != text(length) {
				t.Errorf("%d bytes in size %d: %q", length, size, value)
			}
		}
	}
}

func FuzzPage(f *testing.F) {
	f.Add(128, uint32(7), uint32(0), uint64(5), "abc")
	f.Add(128, uint32(7), uint32(8), uint64(5), text(104))
	f.Add(128, uint32(7), uint32(8), uint64(5), text(105))
	f.Add(-128, uint32(1), uint32(1), uint64(math.MaxUint64), "")
	f.Fuzz(func(t *testing.T, size int, n, next uint32, tx uint64, bytes string) {
		good := size >= 128 && size <= 4096 && size%64 == 0
		if !good {
			wantNoPage(t, size, n, next, tx, bytes)
			if l := slices.Collect(over.Parts(size, bytes)); len(l) != 0 || over.Need(size, len(bytes)) != 0 {
				t.Errorf("%q in size %d: %q", bytes, size, l)
			}
			return
		}
		l := slices.Collect(over.Parts(size, bytes))
		if !slices.Equal(l, cut(size, bytes)) || over.Need(size, len(bytes)) != len(l) {
			t.Errorf("%q in size %d: %q", bytes, size, l)
		}
		isPage := func(n uint32) bool { return n >= 2 && n <= 1<<31-1 }
		fits := len(bytes) >= 1 && len(bytes) <= size-24
		ends := next == 0 || isPage(next) && len(bytes) == size-24
		if fits && ends && isPage(n) && tx <= 1<<62 {
			wantAll(t, size, n, next, tx, bytes)
		} else {
			wantNone(t, size, n, next, tx, bytes)
		}
	})
}

func FuzzOf(f *testing.F) {
	f.Add(5, 3, uint32(7), uint32(0), uint64(5), "abc"+strings.Repeat("\x00", 101))
	f.Add(5, 104, uint32(7), uint32(8), uint64(5), text(104))
	f.Add(5, -1, uint32(1), uint32(9), uint64(math.MaxUint64), "")
	f.Fuzz(func(t *testing.T, kind, count int, n, next uint32, tx uint64, body string) {
		if len(body) > 0 && len(body) < 104 {
			body += strings.Repeat("\x00", 104-len(body))
		}
		p := api.Page{Kind: kind, Count: count, Page: n, Link: next, Tx: tx, Body: body}
		bytes, link, e := over.Of(p)
		if e != api.OK {
			wantNoBytes(t, p)
			return
		}
		if link != next || told(len(body)+24, n, next, tx, bytes) != p {
			t.Errorf("Of %+v: %q %d", p, bytes, link)
		}
		wantPage(t, len(body)+24, n, next, tx, bytes, p)
	})
}
