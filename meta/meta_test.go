package meta_test

import (
	"encoding/binary"
	"hash/crc32"
	"math"
	"strings"
	"testing"

	"careenage/api"
	"careenage/frame"
	"careenage/meta"
)

var (
	goodSizes  = []int{128, 192, 256, 1024, 4032, 4096}
	wrongSizes = []int{0, 1, 24, 64, 127, 129, 191, 4095, 4097, 4160, 1<<16 + 128, 1<<32 + 128, -1, -128, math.MinInt, math.MinInt + 128, math.MaxInt, math.MaxInt - 63}
)

// metas are valid metas of a size: ordinary ones, and those at the edges of each field.
func metas(size int) []api.Meta {
	plain := api.Meta{Tx: 6, Size: size, Root: 2, Free: 3, Pages: 5}
	all := []api.Meta{
		plain,
		{Size: size, Pages: 2},
		{Tx: 1, Size: size, Pages: 2},
		{Tx: 1<<62 - 1, Size: size, Root: math.MaxInt32 - 1, Free: math.MaxInt32 - 1, Pages: math.MaxInt32},
		{Tx: 1 << 62, Size: size, Root: math.MaxInt32 - 1, Pages: math.MaxInt32},
		{Tx: 0x123456789abcdef0, Size: size, Root: 0x12345678, Free: 0x23456789, Pages: 0x3456789a},
	}
	add := func(change func(*api.Meta)) {
		m := plain
		change(&m)
		all = append(all, m)
	}
	for _, tx := range []uint64{0, 1, 2, 7, 255, 256, 1<<32 - 1, 1 << 32, 1<<32 + 1, 1<<53 + 1, 1<<62 - 2, 1<<62 - 1, 1 << 62} {
		add(func(m *api.Meta) { m.Tx = tx })
	}
	for _, n := range []uint32{0, 2, 3, 4} {
		add(func(m *api.Meta) { m.Root = n })
		add(func(m *api.Meta) { m.Free = n })
		add(func(m *api.Meta) { m.Root, m.Free = n, n })
	}
	for _, n := range []uint32{4, 256, 65537, 1 << 20, 1<<20 + 1, 1 << 30, math.MaxInt32} {
		add(func(m *api.Meta) { m.Pages = n })
		add(func(m *api.Meta) { m.Root, m.Pages = n-1, n })
		add(func(m *api.Meta) { m.Free, m.Pages = n-1, n })
	}
	return all
}

// wrongMetas are metas of a good size that are not valid, each for one reason.
func wrongMetas(size int) []api.Meta {
	var all []api.Meta
	add := func(change func(*api.Meta)) {
		for _, tx := range []uint64{6, 7} {
			m := api.Meta{Tx: tx, Size: size, Root: 2, Free: 3, Pages: 5}
			change(&m)
			all = append(all, m)
		}
	}
	for _, tx := range []uint64{1<<62 + 1, 1<<62 + 2, 1 << 63, 1<<63 + 6, math.MaxUint64 - 1, math.MaxUint64} {
		add(func(m *api.Meta) { m.Tx = tx })
	}
	for _, n := range []uint32{1, 5, 6, 256, math.MaxInt32, 1 << 31, 1<<31 + 2, math.MaxUint32} {
		add(func(m *api.Meta) { m.Root = n })
		add(func(m *api.Meta) { m.Free = n })
		add(func(m *api.Meta) { m.Root, m.Free = n, n })
	}
	for _, n := range []uint32{0, 1, 1 << 31, 1<<31 + 5, math.MaxUint32} {
		add(func(m *api.Meta) { m.Root, m.Free, m.Pages = 0, 0, n })
		add(func(m *api.Meta) { m.Pages = n })
	}
	add(func(m *api.Meta) { m.Root, m.Free, m.Pages = 1, 0, 2 })
	add(func(m *api.Meta) { m.Root, m.Free, m.Pages = 0, 1, 2 })
	add(func(m *api.Meta) { m.Root, m.Free, m.Pages = 2, 0, 2 })
	add(func(m *api.Meta) { m.Root, m.Free, m.Pages = 0, 2, 2 })
	add(func(m *api.Meta) { m.Root, m.Free, m.Pages = 2, 3, 3 })
	add(func(m *api.Meta) { m.Root, m.Free, m.Pages = 3, 2, 3 })
	return all
}

// told returns what the page of a meta says, whether the meta is valid or not, laid out a second time by Go's library. Its body has the length for the page size.
func told(size int, m api.Meta) api.Page {
	b := []byte("careen01")
	b = binary.LittleEndian.AppendUint16(b, uint16(m.Size))
	b = binary.LittleEndian.AppendUint32(b, m.Root)
	b = binary.LittleEndian.AppendUint32(b, m.Free)
	b = binary.LittleEndian.AppendUint32(b, m.Pages)
	body := string(b) + strings.Repeat("\x00", max(size-24-len(b), 0))
	return api.Page{Kind: 1, Page: uint32(m.Tx & 1), Tx: m.Tx, Body: body}
}

// block lays out a page, valid or not, under a checksum that is right.
func block(p api.Page) string {
	b := []byte{byte(p.Kind), 1}
	b = binary.LittleEndian.AppendUint16(b, uint16(p.Count))
	b = binary.LittleEndian.AppendUint32(b, p.Page)
	b = binary.LittleEndian.AppendUint32(b, p.Link)
	b = binary.LittleEndian.AppendUint64(b, p.Tx)
	b = append(b, p.Body...)
	sum := crc32.Checksum(b, crc32.MakeTable(crc32.Castagnoli))
	return string(binary.LittleEndian.AppendUint32(nil, sum)) + string(b)
}

// of returns the block of the page of a meta.
func of(m api.Meta) string {
	return block(told(m.Size, m))
}

func wantPage(t *testing.T, m api.Meta, want api.Page) {
	t.Helper()
	if p, e := meta.Page(m); p != want || e != api.OK {
		t.Errorf("Page of %+v: %+v %d, not %+v", m, p, e, want)
	}
}

func wantNoPage(t *testing.T, m api.Meta) {
	t.Helper()
	if p, e := meta.Page(m); p != (api.Page{}) || e != api.ErrArg {
		t.Errorf("Page of %+v: %+v %d", m, p, e)
	}
}

func wantMeta(t *testing.T, size int, p api.Page, want api.Meta) {
	t.Helper()
	if m, e := meta.Of(size, p); m != want || e != api.OK {
		t.Errorf("Of size %d, %+v: %+v %d, not %+v", size, p, m, e, want)
	}
}

func wantNoMeta(t *testing.T, size int, p api.Page) {
	t.Helper()
	if m, e := meta.Of(size, p); m != (api.Meta{}) || e != api.ErrBad {
		t.Errorf("Of size %d, %+v: %+v %d", size, p, m, e)
	}
}

// wantBoth checks what Both and Newest return for an image of a good size. A want that is the zero meta is one that is not right.
func wantBoth(t *testing.T, size int, image string, want [2]api.Meta) {
	t.Helper()
	zero := api.Meta{}
	wantRight := [2]bool{want[0] != zero, want[1] != zero}
	if m, right := meta.Both(size, image); m != want || right != wantRight {
		t.Errorf("Both of size %d, %d bytes: %+v %v, not %+v", size, len(image), m, right, want)
	}
	newest, e := want[0], api.OK
	if !wantRight[0] || wantRight[1] && want[1].Tx > want[0].Tx {
		newest = want[1]
	}
	if newest == zero {
		e = api.ErrNone
	}
	if m, got := meta.Newest(size, image); m != newest || got != e {
		t.Errorf("Newest of size %d, %d bytes: %+v %d, not %+v %d", size, len(image), m, got, newest, e)
	}
}

// P5.1

func TestSlot(t *testing.T) {
	tests := map[uint64]uint32{0: 0, 1: 1, 2: 0, 7: 1, 1 << 32: 0, 1<<32 + 1: 1, 1<<62 - 1: 1, 1 << 62: 0, 1<<62 + 1: 1, 1 << 63: 0, math.MaxUint64 - 1: 0, math.MaxUint64: 1}
	for tx, want := range tests {
		if got := meta.Slot(tx); got != want {
			t.Errorf("Slot(%d) is %d", tx, got)
		}
	}
}

func TestPageLaysOutTheFields(t *testing.T) {
	body := "careen01" + "\x80\x00" + "\x04\x03\x02\x01" + "\x08\x07\x06\x05" + "\x0c\x0b\x0a\x09" + strings.Repeat("\x00", 82)
	m := api.Meta{Tx: 7, Size: 128, Root: 0x01020304, Free: 0x05060708, Pages: 0x090a0b0c}
	p := api.Page{Kind: 1, Count: 0, Page: 1, Link: 0, Tx: 7, Body: body}
	wantPage(t, m, p)
	wantMeta(t, 128, p, m)
}

func TestPageOfEachGoodSize(t *testing.T) {
	for size := 128; size <= 4096; size += 64 {
		m := api.Meta{Tx: 8, Size: size, Root: 4, Free: 0, Pages: 9}
		p := api.Page{Kind: 1, Tx: 8, Body: "careen01" + string([]byte{byte(size), byte(size >> 8)}) + "\x04\x00\x00\x00\x00\x00\x00\x00\x09\x00\x00\x00" + strings.Repeat("\x00", size-46)}
		wantPage(t, m, p)
		wantMeta(t, size, p, m)
	}
}

func TestPageOfValidMetas(t *testing.T) {
	for _, size := range goodSizes {
		for _, m := range metas(size) {
			wantPage(t, m, told(size, m))
			wantMeta(t, size, told(size, m), m)
		}
	}
}

func TestPageOfWrongMetas(t *testing.T) {
	wantNoPage(t, api.Meta{})
	for _, size := range goodSizes {
		for _, m := range wrongMetas(size) {
			wantNoPage(t, m)
		}
	}
}

func TestPageOfWrongSizes(t *testing.T) {
	for size := -4200; size <= 9000; size++ {
		if size < 128 || size > 4096 || size%64 != 0 {
			wantNoPage(t, api.Meta{Tx: 6, Size: size, Root: 2, Free: 3, Pages: 5})
		}
	}
	for _, size := range wrongSizes {
		wantNoPage(t, api.Meta{Tx: 6, Size: size, Root: 2, Free: 3, Pages: 5})
		wantNoPage(t, api.Meta{Tx: 7, Size: size, Pages: 2})
	}
}

func TestOfOfWrongMetas(t *testing.T) {
	for _, size := range goodSizes {
		for _, m := range wrongMetas(size) {
			wantNoMeta(t, size, told(size, m))
		}
	}
}

func TestOfOfOtherSizes(t *testing.T) {
	for _, size := range goodSizes {
		for _, m := range metas(size) {
			p := told(size, m)
			for _, other := range append(goodSizes, wrongSizes...) {
				if other != size {
					wantNoMeta(t, other, p)
				}
			}
		}
	}
}

// The body of such a page is as long as the size asks for, but says another size, or is of another length than the size that it says.
func TestOfOfBodiesOfOtherSizes(t *testing.T) {
	for _, size := range goodSizes {
		for _, said := range append(goodSizes, wrongSizes...) {
			m := api.Meta{Tx: 6, Size: said, Root: 2, Free: 3, Pages: 5}
			if uint16(said) != uint16(size) {
				wantNoMeta(t, size, told(size, m))
				wantNoMeta(t, said, told(size, m))
			}
		}
	}
	for _, size := range wrongSizes {
		if size >= 24 && size <= 9000 {
			wantNoMeta(t, size, told(size, api.Meta{Tx: 6, Size: size, Root: 2, Free: 3, Pages: 5}))
		}
	}
}

func TestOfOfWrongHeaders(t *testing.T) {
	for _, size := range goodSizes {
		for _, m := range metas(size) {
			wrong := func(change func(*api.Page)) {
				p := told(size, m)
				change(&p)
				wantNoMeta(t, size, p)
			}
			for _, kind := range []int{0, -1, 2, 3, 4, 5, 6, 7, 257, 1<<32 + 1, math.MinInt, math.MaxInt} {
				wrong(func(p *api.Page) { p.Kind = kind })
			}
			for _, count := range []int{1, -1, 65535, 65536, 1 << 32, math.MinInt, math.MaxInt} {
				wrong(func(p *api.Page) { p.Count = count })
			}
			for _, n := range []uint32{1, 2, 1 << 31, math.MaxUint32} {
				wrong(func(p *api.Page) { p.Link = n })
			}
			slot := uint32(m.Tx % 2)
			for _, n := range []uint32{1 - slot, 2, 3, 2 + slot, 1<<31 + slot, math.MaxUint32} {
				wrong(func(p *api.Page) { p.Page = n })
			}
			wrong(func(p *api.Page) { p.Tx ^= 1 })
			wrong(func(p *api.Page) { p.Tx += 1 << 63 })
		}
	}
}

func TestOfOfWrongBodies(t *testing.T) {
	for _, size := range goodSizes {
		for _, m := range metas(size)[:2] {
			p := told(size, m)
			for length := range len(p.Body) {
				short := p
				short.Body = p.Body[:length]
				wantNoMeta(t, size, short)
			}
			for _, more := range []string{"\x00", "x", strings.Repeat("\x00", 64), p.Body} {
				long := p
				long.Body += more
				wantNoMeta(t, size, long)
			}
			for _, body := range []string{strings.Repeat("\x00", size-24), strings.Repeat("\xff", size-24), p.Body[1:] + "\x00", "\x00" + p.Body[:size-25], "Careen01" + p.Body[8:], "careen02" + p.Body[8:]} {
				other := p
				other.Body = body
				wantNoMeta(t, size, other)
			}
		}
	}
	wantNoMeta(t, 128, api.Page{})
	wantNoMeta(t, 0, api.Page{})
}

// A change of the mark, of the size or of the zero bytes makes no page of a meta; one of another number may, but then of another meta.
func TestEachByteOfTheBodyCounts(t *testing.T) {
	for _, size := range []int{128, 256, 4096} {
		m := api.Meta{Tx: 6, Size: size, Root: 0x112233, Free: 0x223344, Pages: 0x334455}
		p := told(size, m)
		for i := range p.Body {
			for _, turn := range []byte{1, 2, 16, 128, 255} {
				b := []byte(p.Body)
				b[i] ^= turn
				q := p
				q.Body = string(b)
				if i < 10 || i >= 22 {
					wantNoMeta(t, size, q)
				} else if got, _ := meta.Of(size, q); got == m {
					t.Errorf("size %d: byte %d turned by %d does not count", size, i, turn)
				}
			}
		}
	}
}

// P5.2

func TestBoth(t *testing.T) {
	for _, size := range goodSizes {
		for _, m := range metas(size) {
			for _, tx := range []uint64{m.Tx - 1, m.Tx + 1, m.Tx ^ 1, m.Tx ^ 0x401} {
				other := api.Meta{Tx: tx, Size: size, Root: 7, Free: 6, Pages: 8}
				if tx > 1<<62 {
					continue
				}
				pair := [2]api.Meta{}
				pair[m.Tx%2], pair[tx%2] = m, other
				for _, rest := range []string{"", "rest", strings.Repeat("\x00", 3*size), of(m)} {
					wantBoth(t, size, of(pair[0])+of(pair[1])+rest, pair)
				}
			}
		}
	}
}

func TestOnlyOneIsRight(t *testing.T) {
	for _, size := range goodSizes {
		for _, m := range metas(size) {
			var pair [2]api.Meta
			pair[m.Tx%2] = m
			damaged := []byte(of(api.Meta{Tx: m.Tx ^ 1, Size: size, Pages: 2}))
			damaged[size-1] ^= 1
			for _, other := range []string{strings.Repeat("\x00", size), strings.Repeat("\xff", size), of(m), string(damaged)} {
				blocks := [2]string{other, other}
				blocks[m.Tx%2] = of(m)
				wantBoth(t, size, blocks[0]+blocks[1], pair)
			}
		}
	}
}

// Pages that can be read, but are not those of valid metas.
func TestReadablePagesThatAreNotRight(t *testing.T) {
	for _, size := range goodSizes {
		for i := range uint64(2) {
			good := api.Meta{Tx: 7 - i, Size: size, Root: 2, Free: 3, Pages: 5}
			change := func(change func(*api.Page)) {
				p := told(size, api.Meta{Tx: 8 + i, Size: size, Root: 2, Free: 3, Pages: 5})
				change(&p)
				if _, e := frame.Get(size, uint32(i), block(p)); e != api.OK {
					t.Fatalf("size %d: %+v cannot be read: %d", size, p, e)
				}
				blocks := [2]string{of(good), of(good)}
				blocks[i] = block(p)
				var pair [2]api.Meta
				pair[1-i] = good
				wantBoth(t, size, blocks[0]+blocks[1], pair)
			}
			for kind := 2; kind <= 6; kind++ {
				change(func(p *api.Page) { p.Kind = kind })
			}
			change(func(p *api.Page) { p.Count = 1 })
			change(func(p *api.Page) { p.Link = 1 })
			change(func(p *api.Page) { p.Tx++ })
			change(func(p *api.Page) { p.Body = strings.Repeat("\x00", size-24) })
			change(func(p *api.Page) { p.Body = "careen00" + p.Body[8:] })
			change(func(p *api.Page) { p.Body = p.Body[:size-25] + "\x01" })
			for _, m := range wrongMetas(size) {
				if m.Tx <= 1<<62 {
					change(func(p *api.Page) { p.Body = told(size, m).Body })
				}
			}
			for _, other := range goodSizes {
				if other != size {
					m := api.Meta{Size: other, Root: 2, Free: 3, Pages: 5}
					change(func(p *api.Page) { p.Body = told(size, m).Body })
				}
			}
		}
	}
}

func TestNeitherIsRight(t *testing.T) {
	for _, size := range goodSizes {
		a := of(api.Meta{Tx: 6, Size: size, Root: 2, Free: 3, Pages: 5})
		b := of(api.Meta{Tx: 7, Size: size, Root: 2, Free: 3, Pages: 5})
		zeros := strings.Repeat("\x00", size)
		for _, image := range []string{"", "x", zeros[1:], zeros, zeros + zeros, b, b + a, b + b[:size-1], a[1:] + b, zeros + zeros + a + b, b + a + a + b, a[:size-1]} {
			wantBoth(t, size, image, [2]api.Meta{})
		}
	}
}

func TestImagesThatEndEarly(t *testing.T) {
	for _, size := range goodSizes {
		pair := [2]api.Meta{{Tx: 6, Size: size, Pages: 2}, {Tx: 7, Size: size, Pages: 2}}
		image := of(pair[0]) + of(pair[1])
		for length := range len(image) {
			want := [2]api.Meta{}
			if length >= size {
				want[0] = pair[0]
			}
			if length < 4 || length%61 == 0 || length%size < 2 || length%size > size-2 {
				wantBoth(t, size, image[:length], want)
			}
		}
		wantBoth(t, size, image, pair)
	}
}

func TestTheGreaterTransactionIsTheNewest(t *testing.T) {
	tests := []struct{ even, odd, want uint64 }{
		{6, 7, 7}, {8, 7, 8}, {0, 1, 1}, {2, 1, 2}, {0, 1<<62 - 1, 1<<62 - 1}, {1 << 62, 1, 1 << 62}, {1 << 62, 1<<62 - 1, 1 << 62},
		{1 << 32, 5, 1 << 32}, {6, 1<<32 + 1, 1<<32 + 1}, {256, 255, 256}, {254, 255, 255}, {1 << 61, 1<<61 - 1, 1 << 61},
	}
	for _, size := range goodSizes {
		for _, c := range tests {
			image := of(api.Meta{Tx: c.even, Size: size, Root: 2, Free: 3, Pages: 9}) + of(api.Meta{Tx: c.odd, Size: size, Root: 2, Free: 3, Pages: 9})
			want := api.Meta{Tx: c.want, Size: size, Root: 2, Free: 3, Pages: 9}
			if m, e := meta.Newest(size, image); m != want || e != api.OK {
				t.Errorf("size %d, transactions %d and %d: %+v %d", size, c.even, c.odd, m, e)
			}
		}
	}
}

// What the other fields say does not make a meta the newest.
func TestOnlyTheTransactionMakesTheNewest(t *testing.T) {
	old := api.Meta{Tx: 6, Size: 128, Root: 90, Free: 91, Pages: 100}
	recent := api.Meta{Tx: 7, Size: 128, Pages: 2}
	wantBoth(t, 128, of(old)+of(recent), [2]api.Meta{old, recent})
	old.Tx, recent.Tx = 7, 8
	wantBoth(t, 128, of(recent)+of(old), [2]api.Meta{recent, old})
}

func TestTransactionZeroIsRight(t *testing.T) {
	zero := api.Meta{Size: 128, Pages: 2}
	wantBoth(t, 128, of(zero), [2]api.Meta{zero})
	wantBoth(t, 128, of(zero)+strings.Repeat("\x00", 128), [2]api.Meta{zero})
}

// A meta may say more or fewer pages than the image has: that is not asked here.
func TestPagesThatTheImageHasNot(t *testing.T) {
	m := api.Meta{Tx: 9, Size: 128, Root: 77, Free: 78, Pages: math.MaxInt32}
	wantBoth(t, 128, strings.Repeat("\x00", 128)+of(m), [2]api.Meta{{}, m})
}

func TestWrongSizes(t *testing.T) {
	image := of(api.Meta{Tx: 6, Size: 128, Pages: 2}) + of(api.Meta{Tx: 7, Size: 128, Pages: 2})
	for _, size := range wrongSizes {
		images := []string{"", image}
		if size >= 24 && size <= 9000 { // blocks as they would be, were the size good
			even, odd := api.Meta{Tx: 6, Size: size, Pages: 2}, api.Meta{Tx: 7, Size: size, Pages: 2}
			images = append(images, block(told(size, even))+block(told(size, odd)))
		}
		for _, s := range images {
			if m, right := meta.Both(size, s); m != [2]api.Meta{} || right != [2]bool{} {
				t.Errorf("Both of size %d: %+v %v", size, m, right)
			}
			if m, e := meta.Newest(size, s); m != (api.Meta{}) || e != api.ErrArg {
				t.Errorf("Newest of size %d: %+v %d", size, m, e)
			}
		}
	}
}

// An image of one size, read as one of another size, has no right meta of it.
func TestOtherSizesOfAnImage(t *testing.T) {
	for _, size := range goodSizes {
		image := of(api.Meta{Tx: 6, Size: size, Pages: 2}) + of(api.Meta{Tx: 7, Size: size, Pages: 2}) + strings.Repeat("\x00", 9000)
		for _, other := range goodSizes {
			if other != size {
				wantBoth(t, other, image, [2]api.Meta{})
			}
		}
	}
}

// P5.3

func TestOfOfPageIsTheMeta(t *testing.T) {
	for _, size := range goodSizes {
		for _, m := range metas(size) {
			p, e := meta.Page(m)
			if e != api.OK {
				t.Errorf("%+v: %d", m, e)
			}
			wantMeta(t, size, p, m)
			if _, e := frame.Put(size, p); e != api.OK {
				t.Errorf("%+v: its page cannot be put: %d", m, e)
			}
		}
	}
}

// Whichever pages of metas lie in an image, those that are right have different transactions.
func TestRightMetasDiffer(t *testing.T) {
	for _, size := range []int{128, 4096} {
		for first := range uint64(5) {
			for second := range uint64(5) {
				a, b := api.Meta{Tx: first, Size: size, Pages: 2}, api.Meta{Tx: second, Size: size, Pages: 3}
				var want [2]api.Meta
				if first%2 == 0 {
					want[0] = a
				}
				if second%2 == 1 {
					want[1] = b
				}
				image := of(a) + of(b)
				wantBoth(t, size, image, want)
				if m, right := meta.Both(size, image); right == [2]bool{true, true} && m[0].Tx == m[1].Tx {
					t.Errorf("size %d: both are of transaction %d", size, m[0].Tx)
				}
			}
		}
	}
}

func FuzzPage(f *testing.F) {
	f.Add(uint64(6), 128, uint32(2), uint32(3), uint32(5))
	f.Add(uint64(1<<62), 4096, uint32(0), uint32(0), uint32(2))
	f.Add(uint64(1<<62+1), -1, uint32(1), uint32(1), uint32(math.MaxUint32))
	f.Fuzz(func(t *testing.T, tx uint64, size int, root, free, pages uint32) {
		m := api.Meta{Tx: tx, Size: size, Root: root, Free: free, Pages: pages}
		good := size >= 128 && size <= 4096 && size%64 == 0
		if !good || tx > 1<<62 || pages < 2 || pages > 1<<31-1 || root >= pages || root == 1 || free >= pages || free == 1 {
			wantNoPage(t, m)
			return
		}
		wantPage(t, m, told(size, m))
		wantMeta(t, size, told(size, m), m)
	})
}

func FuzzOf(f *testing.F) {
	m := api.Meta{Tx: 6, Size: 128, Root: 2, Free: 3, Pages: 5}
	f.Add(128, 1, 0, uint32(0), uint32(0), uint64(6), told(128, m).Body)
	f.Add(-1, 9, -1, uint32(9), uint32(9), uint64(math.MaxUint64), "careen01")
	f.Fuzz(func(t *testing.T, size, kind, count int, n, link uint32, tx uint64, body string) {
		p := api.Page{Kind: kind, Count: count, Page: n, Link: link, Tx: tx, Body: body}
		meta.Newest(size, body)
		m, e := meta.Of(size, p)
		if e != api.OK {
			wantNoMeta(t, size, p)
			return
		}
		if m.Size != size || told(size, m) != p {
			t.Errorf("Of size %d, %+v: %+v", size, p, m)
		}
		wantPage(t, m, p)
	})
}
