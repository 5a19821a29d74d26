package frame_test

import (
	"encoding/binary"
	"hash/crc32"
	"math"
	"strings"
	"testing"

	"careenage/api"
	"careenage/frame"
)

var (
	goodSizes  = []int{128, 192, 256, 1024, 4032, 4096}
	wrongSizes = []int{0, 1, 23, 24, 64, 127, 129, 152, 191, 193, 4095, 4097, 4160, 8192, -1, -64, -128, -4096, math.MinInt, math.MinInt + 128, math.MaxInt, math.MaxInt - 63, 1<<32 + 128}
)

// fields are what a block says, whether a page may say it or not.
type fields struct {
	kind, version byte
	count         uint16
	page, link    uint32
	tx            uint64
	body          string
}

// told are the fields of a valid page.
func told(p api.Page) fields {
	return fields{byte(p.Kind), 1, uint16(p.Count), p.Page, p.Link, p.Tx, p.Body}
}

// block lays fields out a second time, by Go's library, under a checksum that is right.
func (f fields) block() string {
	b := []byte{f.kind, f.version}
	b = binary.LittleEndian.AppendUint16(b, f.count)
	b = binary.LittleEndian.AppendUint32(b, f.page)
	b = binary.LittleEndian.AppendUint32(b, f.link)
	b = binary.LittleEndian.AppendUint64(b, f.tx)
	b = append(b, f.body...)
	return string(binary.LittleEndian.AppendUint32(nil, castagnoli(b))) + string(b)
}

func castagnoli(b []byte) uint32 {
	return crc32.Checksum(b, crc32.MakeTable(crc32.Castagnoli))
}

// mixed returns n bytes without a short period; they are not text.
func mixed(n int) string {
	b := make([]byte, max(n, 0))
	x := uint32(n)
	for i := range b {
		x = x*1664525 + 1013904223
		b[i] = byte(x >> 24)
	}
	return string(b)
}

// pages are valid pages of a size: ordinary ones, and those at the edges of each field.
func pages(size int) []api.Page {
	room := size - 24
	plain := api.Page{Kind: api.KindLeaf, Count: 3, Page: 7, Link: 9, Tx: 11, Body: mixed(room)}
	all := []api.Page{
		plain,
		{Kind: api.KindMeta, Body: strings.Repeat("\x00", room)},
		{Kind: api.KindFree, Count: 65535, Page: api.MaxPage, Link: api.MaxPage, Tx: api.MaxTx, Body: strings.Repeat("\xff", room)},
		{Kind: api.KindBranch, Count: 0x1234, Page: 0x12345678, Link: 0x23456789, Tx: 0x123456789abcdef0, Body: mixed(room)},
	}
	add := func(change func(*api.Page)) {
		p := plain
		change(&p)
		all = append(all, p)
	}
	for kind := 1; kind <= 6; kind++ {
		add(func(p *api.Page) { p.Kind = kind })
	}
	for _, n := range []int{0, 1, 255, 256, 257, 32767, 32768, 65534, 65535} {
		add(func(p *api.Page) { p.Count = n })
	}
	for _, n := range []uint32{0, 1, 255, 256, 65536, 1 << 24, 1 << 30, math.MaxInt32 - 1, math.MaxInt32} {
		add(func(p *api.Page) { p.Page = n })
		add(func(p *api.Page) { p.Link = n })
		add(func(p *api.Page) { p.Page, p.Link = n, n })
	}
	for _, n := range []uint64{0, 1, 256, 1<<32 - 1, 1 << 32, 1<<53 + 1, 1<<62 - 1, 1 << 62} {
		add(func(p *api.Page) { p.Tx = n })
	}
	return all
}

// wantPut checks that Put returns the bytes of a page.
func wantPut(t *testing.T, size int, p api.Page, want string) {
	t.Helper()
	if s, e := frame.Put(size, p); s != want || e != api.OK {
		t.Errorf("Put of size %d, %+v:\n%x %d, not\n%x", size, p, s, e, want)
	}
}

func wantNoPut(t *testing.T, size int, p api.Page) {
	t.Helper()
	if s, e := frame.Put(size, p); s != "" || e != api.ErrArg {
		t.Errorf("Put of size %d, %+v: %x %d", size, p, s, e)
	}
}

func wantGet(t *testing.T, size int, n uint32, block string, want api.Page) {
	t.Helper()
	if p, e := frame.Get(size, n, block); p != want || e != api.OK {
		t.Errorf("Get of size %d, page %d, %x:\n%+v %d, not\n%+v", size, n, block, p, e, want)
	}
}

func wantNoGet(t *testing.T, size int, n uint32, block string, want api.Errno) {
	t.Helper()
	if p, e := frame.Get(size, n, block); p != (api.Page{}) || e != want {
		t.Errorf("Get of size %d, page %d, %x: %+v %d, not %d", size, n, block, p, e, want)
	}
}

// P4.1

func TestRoom(t *testing.T) {
	rooms := map[int]int{}
	for size := 128; size <= 4096; size += 64 {
		rooms[size] = size - 24
	}
	for size := -5000; size <= 9000; size++ {
		if got := frame.Room(size); got != rooms[size] {
			t.Errorf("Room(%d) is %d", size, got)
		}
	}
	for _, size := range wrongSizes {
		if got := frame.Room(size); got != 0 {
			t.Errorf("Room(%d) is %d", size, got)
		}
	}
}

func TestPutLaysOutTheFields(t *testing.T) {
	body := strings.Repeat("b", 104)
	rest := "\x04\x01\x03\x02" + "\x0d\x0c\x0b\x0a" + "\x1d\x1c\x1b\x1a" + "\x28\x27\x26\x25\x24\x23\x22\x21" + body
	c := castagnoli([]byte(rest))
	sum := string([]byte{byte(c), byte(c >> 8), byte(c >> 16), byte(c >> 24)})
	p := api.Page{Kind: 4, Count: 0x203, Page: 0x0a0b0c0d, Link: 0x1a1b1c1d, Tx: 0x2122232425262728, Body: body}
	wantPut(t, 128, p, sum+rest)
}

func TestPutOfValidPages(t *testing.T) {
	for _, size := range goodSizes {
		for _, p := range pages(size) {
			wantPut(t, size, p, told(p).block())
		}
	}
}

func TestPutOfWrongSizes(t *testing.T) {
	for _, size := range wrongSizes {
		for _, length := range []int{0, 104, 168, 4072, size, size - 24} {
			if length >= 0 && length <= 9000 {
				wantNoPut(t, size, api.Page{Kind: 4, Page: 2, Body: mixed(length)})
			}
		}
	}
}

func TestPutOfWrongFields(t *testing.T) {
	for _, size := range goodSizes {
		for _, p := range pages(size) {
			for _, kind := range []int{0, -1, 7, 255, 256, 256 + 4, 1<<32 + 4, math.MinInt, math.MaxInt} {
				q := p
				q.Kind = kind
				wantNoPut(t, size, q)
			}
			for _, count := range []int{-1, 65536, 65536 + 3, 1 << 32, math.MinInt, math.MaxInt} {
				q := p
				q.Count = count
				wantNoPut(t, size, q)
			}
			for _, n := range []uint32{1 << 31, 1<<31 + 7, math.MaxUint32} {
				q, r := p, p
				q.Page, r.Link = n, n
				wantNoPut(t, size, q)
				wantNoPut(t, size, r)
			}
			for _, tx := range []uint64{1<<62 + 1, 1 << 63, math.MaxUint64} {
				q := p
				q.Tx = tx
				wantNoPut(t, size, q)
			}
		}
	}
}

func TestPutOfWrongBodies(t *testing.T) {
	for _, size := range goodSizes {
		for _, length := range []int{0, 1, size - 25, size - 23, size, size + 40, 2*size - 24} {
			wantNoPut(t, size, api.Page{Kind: 4, Page: 2, Body: mixed(length)})
		}
	}
}

func TestGetOfValidPages(t *testing.T) {
	for _, size := range goodSizes {
		for _, p := range pages(size) {
			wantGet(t, size, p.Page, told(p).block(), p)
		}
	}
}

func TestGetOfWrongSizes(t *testing.T) {
	for _, size := range wrongSizes {
		for _, s := range []string{"", mixed(128), told(pages(128)[0]).block()} {
			wantNoGet(t, size, 7, s, api.ErrArg)
		}
		if size >= 24 && size <= 9000 {
			wantNoGet(t, size, 7, fields{4, 1, 3, 7, 9, 11, mixed(size - 24)}.block(), api.ErrArg)
		}
	}
}

func TestGetOfWrongLengths(t *testing.T) {
	for _, size := range goodSizes {
		for _, length := range []int{24, 25, 64, size - 64, size - 1, size + 1, size + 64, 2 * size} {
			wantNoGet(t, size, 7, fields{4, 1, 3, 7, 9, 11, mixed(length - 24)}.block(), api.ErrBad)
		}
		good := told(pages(size)[0]).block()
		for length := range size {
			wantNoGet(t, size, 7, good[:length], api.ErrBad)
		}
		wantNoGet(t, size, 7, good+"\x00", api.ErrBad)
		wantNoGet(t, size, 7, good+good, api.ErrBad)
	}
}

func TestGetOfZeroAndOneBytes(t *testing.T) {
	for _, size := range goodSizes {
		wantNoGet(t, size, 0, strings.Repeat("\x00", size), api.ErrBad)
		wantNoGet(t, size, 0, strings.Repeat("\xff", size), api.ErrBad)
		wantNoGet(t, size, math.MaxUint32, strings.Repeat("\xff", size), api.ErrBad)
	}
}

func TestGetOfOtherNumbers(t *testing.T) {
	for _, size := range goodSizes {
		for _, p := range pages(size) {
			s := told(p).block()
			for _, n := range []uint32{0, 1, 7, 9, 255, math.MaxInt32, 1 << 31, math.MaxUint32, p.Page + 1, p.Page - 1, p.Page ^ 1<<31} {
				if n != p.Page {
					wantNoGet(t, size, n, s, api.ErrBad)
				}
			}
		}
	}
}

func TestGetOfForgedFields(t *testing.T) {
	for _, size := range goodSizes {
		good := fields{4, 1, 3, 7, 9, 11, mixed(size - 24)}
		forge := func(change func(*fields)) {
			f := good
			change(&f)
			wantNoGet(t, size, f.page, f.block(), api.ErrBad)
		}
		for i := range 256 {
			if i < 1 || i > 6 {
				forge(func(f *fields) { f.kind = byte(i) })
			}
			if i != 1 {
				forge(func(f *fields) { f.version = byte(i) })
			}
		}
		for _, n := range []uint32{1 << 31, 1<<31 + 7, math.MaxUint32} {
			forge(func(f *fields) { f.page = n })
			forge(func(f *fields) { f.link = n })
		}
		for _, n := range []uint64{1<<62 + 1, 1 << 63, math.MaxUint64} {
			forge(func(f *fields) { f.tx = n })
		}
	}
}

func TestGetOfWrongChecksums(t *testing.T) {
	for _, size := range goodSizes {
		for _, p := range pages(size) {
			s := told(p).block()
			turned := string([]byte{s[3], s[2], s[1], s[0]})
			ofAll := string(binary.LittleEndian.AppendUint32(nil, castagnoli([]byte("\x00\x00\x00\x00"+s[4:]))))
			ofBody := string(binary.LittleEndian.AppendUint32(nil, castagnoli([]byte(s[24:]))))
			for _, sum := range []string{"\x00\x00\x00\x00", "\xff\xff\xff\xff", turned, ofAll, ofBody} {
				if sum != s[:4] {
					wantNoGet(t, size, p.Page, sum+s[4:], api.ErrBad)
				}
			}
		}
	}
}

func TestBody(t *testing.T) {
	for _, size := range goodSizes {
		room := size - 24
		for length := range room + 1 {
			b := mixed(length)
			want := b + strings.Repeat("\x00", room-length)
			if got, e := frame.Body(size, []byte(b)); got != want || e != api.OK {
				t.Errorf("size %d, %d bytes: %x %d", size, length, got, e)
			}
		}
		if got, e := frame.Body(size, nil); got != strings.Repeat("\x00", room) || e != api.OK {
			t.Errorf("size %d, nil: %x %d", size, got, e)
		}
	}
}

func TestBodyOfWrongArguments(t *testing.T) {
	for _, size := range goodSizes {
		for _, length := range []int{size - 23, size - 22, size, size + 1, 2 * size, 9000} {
			if got, e := frame.Body(size, make([]byte, length)); got != "" || e != api.ErrLong {
				t.Errorf("size %d, %d bytes: %x %d", size, length, got, e)
			}
		}
	}
	for _, size := range wrongSizes {
		for _, length := range []int{0, 1, 104, 9000} {
			if got, e := frame.Body(size, make([]byte, length)); got != "" || e != api.ErrArg {
				t.Errorf("size %d, %d bytes: %x %d", size, length, got, e)
			}
		}
	}
}

func TestBodyIsACopy(t *testing.T) {
	memory := []byte(strings.Repeat("m", 300))
	for _, length := range []int{0, 3, 103, 104} {
		b := memory[:length]
		body, e := frame.Body(128, b)
		want := string(b) + strings.Repeat("\x00", 104-length)
		if body != want || e != api.OK {
			t.Errorf("%d bytes: the spare capacity was read: %q %d", length, body, e)
		}
		if string(memory) != strings.Repeat("m", 300) {
			t.Fatalf("%d bytes: the argument was changed to %q", length, memory)
		}
		for i := range b {
			b[i] = '#'
		}
		if body != want {
			t.Errorf("%d bytes: the body changed to %q", length, body)
		}
		copy(b, strings.Repeat("m", length))
	}
}

// P4.2

func TestPages(t *testing.T) {
	for _, size := range goodSizes {
		for n := range 4 {
			for _, rest := range []int{0, 1, 64, size - 1} {
				if got := frame.Pages(size, mixed(n*size+rest)); got != n {
					t.Errorf("size %d, %d pages and %d bytes: %d", size, n, rest, got)
				}
			}
		}
	}
	for _, size := range wrongSizes {
		for _, length := range []int{0, 1, 128, 9000} {
			if got := frame.Pages(size, mixed(length)); got != 0 {
				t.Errorf("size %d, %d bytes: %d", size, length, got)
			}
		}
	}
}

// beyond are numbers of pages that an image of fewer than 9 has not; the greater ones would be back within it if they were multiplied in 32 bits.
var beyond = []uint32{9, 1 << 20, 1 << 25, 1<<25 + 1, 1<<26 + 1, 1 << 31, 1<<31 + 1, math.MaxUint32 - 1, math.MaxUint32}

func TestAt(t *testing.T) {
	for _, size := range goodSizes {
		for pages := range 4 {
			for _, rest := range []int{0, 1, size - 1} {
				image := mixed(pages*size + rest)
				for n := range pages {
					want := image[n*size : (n+1)*size]
					if s, there := frame.At(size, image, uint32(n)); s != want || !there {
						t.Errorf("size %d, page %d of %d: %x %v", size, n, pages, s, there)
					}
				}
				for _, n := range append([]uint32{uint32(pages), uint32(pages) + 1}, beyond...) {
					if s, there := frame.At(size, image, n); s != "" || there {
						t.Errorf("size %d, page %d of %d: %x %v", size, n, pages, s, there)
					}
				}
			}
		}
	}
	for _, size := range wrongSizes {
		for _, n := range append([]uint32{0, 1, 2}, beyond...) {
			if s, there := frame.At(size, mixed(9000), n); s != "" || there {
				t.Errorf("size %d, page %d: %x %v", size, n, s, there)
			}
		}
	}
}

// imageOf returns an image of right pages, one after the other.
func imageOf(size, pages int) string {
	var b strings.Builder
	for n := range pages {
		b.WriteString(fields{4, 1, uint16(n), uint32(n), 0, uint64(n), mixed(size - 24)}.block())
	}
	return b.String()
}

func wantRead(t *testing.T, size int, image string, n uint32, want api.Page, e api.Errno) {
	t.Helper()
	if p, got := frame.Read(size, image, n); p != want || got != e {
		t.Errorf("Read of size %d, %d bytes, page %d: %+v %d, not %d", size, len(image), n, p, got, e)
	}
}

func TestRead(t *testing.T) {
	for _, size := range goodSizes {
		for _, rest := range []int{0, 1, size - 1} {
			image := imageOf(size, 4) + imageOf(size, 5)[4*size:][:rest]
			for n := range 4 {
				p := api.Page{Kind: 4, Count: n, Page: uint32(n), Tx: uint64(n), Body: mixed(size - 24)}
				wantRead(t, size, image, uint32(n), p, api.OK)
			}
			for _, n := range append([]uint32{4, 5}, beyond...) {
				wantRead(t, size, image, n, api.Page{}, api.ErrNone)
			}
		}
		wantRead(t, size, "", 0, api.Page{}, api.ErrNone)
	}
}

func TestReadOfBadPages(t *testing.T) {
	for _, size := range goodSizes {
		good := imageOf(size, 3)
		first, second, third := good[:size], good[size:2*size], good[2*size:]
		for n := range 3 {
			wantRead(t, size, third+first+second, uint32(n), api.Page{}, api.ErrBad)
			wantRead(t, size, strings.Repeat("\x00", 3*size), uint32(n), api.Page{}, api.ErrBad)
			wantRead(t, size, good[1:]+"\x00", uint32(n), api.Page{}, api.ErrBad)
		}
	}
	wantRead(t, 192, imageOf(128, 3), 0, api.Page{}, api.ErrBad)
}

func TestReadOfWrongSizes(t *testing.T) {
	for _, size := range wrongSizes {
		for _, image := range []string{"", imageOf(128, 3)} {
			for _, n := range append([]uint32{0, 1}, beyond...) {
				wantRead(t, size, image, n, api.Page{}, api.ErrArg)
			}
		}
	}
}

// P4.3

func TestPutOfWhatGetReturned(t *testing.T) {
	for _, size := range goodSizes {
		for _, p := range pages(size) {
			s := told(p).block()
			got, e := frame.Get(size, p.Page, s)
			if e != api.OK {
				t.Errorf("size %d, %+v: %d", size, p, e)
			}
			wantPut(t, size, got, s)
		}
	}
}

// turned returns a block with the bits turned that a pattern has, its lowest at bit place of the block.
func turned(s string, place int, pattern uint32) string {
	b := []byte(s)
	for i := range 32 {
		if pattern>>i&1 == 1 {
			b[(place+i)/8] ^= 1 << ((place + i) % 8)
		}
	}
	return string(b)
}

// patterns are turns of 1 to 32 bits within 32.
func patterns() []uint32 {
	all := []uint32{1, 3, 0x81, 0xffff, 0x80000001, 0x7fffffff, 0xfffffffe, math.MaxUint32, 0x82f63b78, 0x1edc6f41, 0xaaaaaaaa}
	x := uint32(1)
	for range 5 {
		x = x*1664525 + 1013904223
		all = append(all, x)
	}
	return all
}

// wantNoPage checks that a changed block is a page of no number: neither that it had, nor that it says.
func wantNoPage(t *testing.T, size int, n uint32, s string) {
	t.Helper()
	said := binary.LittleEndian.Uint32([]byte(s[8:12]))
	wantNoGet(t, size, n, s, api.ErrBad)
	wantNoGet(t, size, said, s, api.ErrBad)
}

func TestTurnsWithinTheChecksum(t *testing.T) {
	for _, p := range pages(128) {
		s := told(p).block()
		for place := range 32 {
			for _, pattern := range patterns() {
				if within := pattern << place >> place; within != 0 {
					wantNoPage(t, 128, p.Page, turned(s, place, within))
				}
			}
		}
	}
}

func TestTurnsAfterTheChecksum(t *testing.T) {
	for _, size := range []int{128, 192} {
		for _, p := range pages(size)[:4] {
			s := told(p).block()
			for place := 32; place+32 <= 8*size; place++ {
				for _, pattern := range patterns() {
					wantNoPage(t, size, p.Page, turned(s, place, pattern))
				}
			}
			for place := 8*size - 31; place < 8*size; place++ {
				wantNoPage(t, size, p.Page, turned(s, place, 1))
			}
		}
	}
}

func TestEachByteCounts(t *testing.T) {
	s := told(pages(128)[0]).block()
	for i := range s {
		for turn := 1; turn < 256; turn++ {
			wantNoPage(t, 128, 7, turned(s, 8*i, uint32(turn)))
		}
	}
}

func FuzzGet(f *testing.F) {
	f.Add(128, uint32(7), told(pages(128)[0]).block(), false)
	f.Add(192, uint32(7), mixed(192), true)
	f.Add(-1, uint32(0), "", true)
	f.Fuzz(func(t *testing.T, size int, n uint32, s string, forge bool) {
		if forge && len(s) >= 24 {
			s = string(binary.LittleEndian.AppendUint32(nil, castagnoli([]byte(s[4:])))) + s[4:]
		}
		frame.Read(size, s, n)
		frame.Body(size, []byte(s))
		p, e := frame.Get(size, n, s)
		if e != api.OK {
			wantNoGet(t, size, n, s, e)
			return
		}
		wantPut(t, size, p, s)
		if told(p).block() != s || p.Page != n {
			t.Errorf("%x: %+v", s, p)
		}
	})
}

func FuzzPut(f *testing.F) {
	f.Add(128, 4, 3, uint32(7), uint32(9), uint64(11), mixed(104))
	f.Add(4096, 6, 65535, uint32(math.MaxInt32), uint32(0), uint64(1<<62), "")
	f.Fuzz(func(t *testing.T, size, kind, count int, n, link uint32, tx uint64, body string) {
		if filled, e := frame.Body(size, []byte(body)); e == api.OK {
			body = filled
		}
		p := api.Page{Kind: kind, Count: count, Page: n, Link: link, Tx: tx, Body: body}
		s, e := frame.Put(size, p)
		if e != api.OK {
			wantNoPut(t, size, p)
			return
		}
		wantGet(t, size, n, s, p)
		if s != told(p).block() {
			t.Errorf("%+v: %x", p, s)
		}
	})
}
