package chain_test

import (
	"encoding/binary"
	"hash/crc32"
	"math"
	"slices"
	"strings"
	"testing"

	"careenage/api"
	"careenage/chain"
	"careenage/device"
)

var (
	goodSizes  = []int{128, 192, 256, 1024, 4032, 4096}
	wrongSizes = []int{0, 1, 23, 24, 25, 28, 29, 64, 127, 129, 132, 191, 4095, 4097, 4160, 1<<16 + 128, 1<<32 + 128, -1, -24, -128, math.MinInt, math.MinInt + 24, math.MinInt + 128, math.MaxInt, math.MaxInt - 63}
)

// numbers tell whether there can be a page with them.
var numbers = map[uint32]bool{0: false, 1: false, 2: true, 3: true, 256: true, 65537: true, 1<<31 - 2: true, 1<<31 - 1: true, 1 << 31: false, 1<<31 + 2: false, math.MaxUint32: false}

var txs = map[uint64]bool{0: true, 1: true, 1 << 32: true, 1<<53 + 1: true, 1<<62 - 1: true, 1 << 62: true, 1<<62 + 1: false, 1 << 63: false, math.MaxUint64: false}

func isGood(size int) bool {
	return size >= 128 && size <= 4096 && size%64 == 0
}

// text is a value of a length in which a piece that is at another place than it should be shows.
func text(length int) string {
	b := make([]byte, length)
	for i := range b {
		b[i] = byte(1 + i%251)
	}
	return string(b)
}

// run are numbers from one on, each that much greater than the one before it.
func run(from, step uint32, length int) []uint32 {
	var l []uint32
	for range length {
		l = append(l, from)
		from += step
	}
	return l
}

// orders are numbers of pages in which a chain of a length can be: by itself, from behind, with gaps, to and fro.
func orders(length int) [][]uint32 {
	down := run(2, 1, length)
	slices.Reverse(down)
	half := run(2, 2, length)
	for i := range half {
		if i%2 == 1 {
			half[i] = uint32(2*length+9) - half[i]
		}
	}
	return [][]uint32{run(2, 1, length), run(7, 1, length), run(5, 3, length), down, half}
}

// part is the page of a part of a value, laid out a second time, whether it is right or not.
func part(size int, n, next uint32, tx uint64, bytes string) api.Page {
	return api.Page{Kind: 5, Count: len(bytes), Page: n, Link: next, Tx: tx, Body: bytes + strings.Repeat("\x00", size-24-len(bytes))}
}

// list is the page of free numbers, laid out a second time, whether it is right or not.
func list(size int, n, next uint32, tx uint64, l []uint32) api.Page {
	var b []byte
	for _, k := range l {
		b = binary.LittleEndian.AppendUint32(b, k)
	}
	return api.Page{Kind: 6, Count: len(l), Page: n, Link: next, Tx: tx, Body: string(b) + strings.Repeat("\x00", size-24-len(b))}
}

// next is the number after the one at an index, or 0.
func next(pages []uint32, i int) uint32 {
	return append(slices.Clone(pages), 0)[i+1]
}

// parts are the pages of a value, cut and linked a second time.
func parts(size int, tx uint64, pages []uint32, value string) []api.Page {
	var l []api.Page
	for i, n := range pages {
		from := i * (size - 24)
		l = append(l, part(size, n, next(pages, i), tx, value[from:min(from+size-24, len(value))]))
	}
	return l
}

// lists are the pages that list numbers, dealt and linked a second time.
func lists(size int, tx uint64, pages, listed []uint32) []api.Page {
	var l []api.Page
	for i, n := range pages {
		most := (size - 24) / 4
		from := min(i*most, len(listed))
		l = append(l, list(size, n, next(pages, i), tx, listed[from:min(from+most, len(listed))]))
	}
	return l
}

// need is how many pieces of a length there are in a whole.
func need(whole, piece int) int {
	return int(math.Ceil(float64(whole) / float64(piece)))
}

// block is the bytes of a page, laid out a second time by Go's library.
func block(p api.Page) string {
	b := []byte{byte(p.Kind), 1}
	b = binary.LittleEndian.AppendUint16(b, uint16(p.Count))
	b = binary.LittleEndian.AppendUint32(b, p.Page)
	b = binary.LittleEndian.AppendUint32(b, p.Link)
	b = binary.LittleEndian.AppendUint64(b, p.Tx)
	b = append(b, p.Body...)
	sum := crc32.Checksum(b, crc32.MakeTable(crc32.Castagnoli))
	return string(binary.LittleEndian.AppendUint32(nil, sum)) + string(b)
}

// laid is an image with pages, put together a second time, page by page.
func laid(size int, l ...api.Page) string {
	var blocks []string
	for _, p := range l {
		for len(blocks) <= int(p.Page) {
			blocks = append(blocks, strings.Repeat("\x00", size))
		}
		blocks[p.Page] = block(p)
	}
	return strings.Join(blocks, "")
}

// put is an image with other bytes from an index on.
func put(image string, at int, bytes string) string {
	return image[:at] + bytes + image[at+len(bytes):]
}

// turned is an image with a byte turned.
func turned(image string, at int, turn byte) string {
	return put(image, at, string([]byte{image[at] ^ turn}))
}

// step is what Follow yields at once.
type step struct {
	p api.Page
	e api.Errno
}

// wantFollowed asks for the pages of a chain, and whether something wrong follows them.
func wantFollowed(t *testing.T, size int, image string, head uint32, kind int, want []api.Page, wrong bool) {
	t.Helper()
	var steps, got []step
	for _, p := range want {
		steps = append(steps, step{p, api.OK})
	}
	if wrong {
		steps = append(steps, step{api.Page{}, api.ErrBad})
	}
	for p, e := range chain.Follow(size, image, head, kind) {
		got = append(got, step{p, e})
		if len(got) > len(steps) {
			break
		}
	}
	if !slices.Equal(got, steps) {
		t.Errorf("Follow of size %d, %d bytes, from %d, kind %d:\n%+v, not\n%+v", size, len(image), head, kind, got, steps)
	}
}

func wantValue(t *testing.T, size int, image string, head uint32, value string, pages []uint32) {
	t.Helper()
	if s, l, e := chain.Read(size, image, head, len(value)); s != value || !slices.Equal(l, pages) || e != api.OK {
		t.Errorf("Read of size %d, %d bytes, from %d, %d bytes: %q %d %d, not\n%q %d", size, len(image), head, len(value), s, l, e, value, pages)
	}
}

func wantNoValue(t *testing.T, size int, image string, head uint32, length int, want api.Errno) {
	t.Helper()
	if s, l, e := chain.Read(size, image, head, length); s != "" || len(l) != 0 || e != want {
		t.Errorf("Read of size %d, %d bytes, from %d, %d bytes: %q %d %d, not %d", size, len(image), head, length, s, l, e, want)
	}
}

func wantNumbers(t *testing.T, size int, image string, head uint32, listed, pages []uint32) {
	t.Helper()
	if l, m, e := chain.List(size, image, head); !slices.Equal(l, listed) || !slices.Equal(m, pages) || e != api.OK {
		t.Errorf("List of size %d, %d bytes, from %d: %d %d %d, not\n%d %d", size, len(image), head, l, m, e, listed, pages)
	}
}

func wantNoNumbers(t *testing.T, size int, image string, head uint32, want api.Errno) {
	t.Helper()
	if l, m, e := chain.List(size, image, head); len(l) != 0 || len(m) != 0 || e != want {
		t.Errorf("List of size %d, %d bytes, from %d: %d %d %d, not %d", size, len(image), head, l, m, e, want)
	}
}

// P11.1

func TestFollowYieldsTheChain(t *testing.T) {
	for _, size := range goodSizes {
		for _, length := range []int{1, 2, 3, 9} {
			for _, pages := range orders(length) {
				values := parts(size, 5, pages, text(length*(size-24)))
				wantFollowed(t, size, laid(size, values...), pages[0], 5, values, false)
				free := lists(size, 5, pages, run(2, 3, 30))
				wantFollowed(t, size, laid(size, free...), pages[0], 6, free, false)
				for i := range pages { // from a page within it on
					wantFollowed(t, size, laid(size, values...), pages[i], 5, values[i:], false)
				}
			}
		}
	}
}

func TestFollowFromZeroYieldsNothing(t *testing.T) {
	for _, image := range []string{"", laid(128, part(128, 0, 0, 5, "a"), part(128, 1, 0, 5, "b"), part(128, 2, 0, 5, "c"))} {
		for _, size := range slices.Concat(goodSizes, wrongSizes) {
			for _, kind := range []int{-1, 0, 5, 6, 7} {
				wantFollowed(t, size, image, 0, kind, nil, false)
			}
		}
	}
}

func TestFollowOfWrongSizes(t *testing.T) {
	image := laid(128, parts(128, 5, run(2, 1, 3), text(300))...)
	for _, size := range wrongSizes {
		for _, head := range []uint32{1, 2, 3, 9, math.MaxUint32} {
			wantFollowed(t, size, image, head, 5, nil, true)
		}
	}
	wantFollowed(t, 192, image, 2, 5, nil, true)
}

// A link that names no page that can follow: the pages before it are yielded, then what is wrong.
func TestFollowEndsAtAWrongLink(t *testing.T) {
	for _, length := range []int{1, 2, 5} {
		for _, pages := range orders(length) {
			for _, link := range []uint32{1, 100, 1000, 1 << 20, 1<<31 - 1} {
				l := parts(128, 5, pages, text(length*104))
				l[length-1].Link = link
				image := laid(128, append(l, part(128, 0, 0, 5, "a"), part(128, 1, 0, 5, "b"))...)
				wantFollowed(t, 128, image, pages[0], 5, l, true)
			}
		}
	}
}

func TestFollowOfWrongHeads(t *testing.T) {
	image := laid(128, part(128, 0, 0, 5, "a"), part(128, 1, 0, 5, "b"), part(128, 2, 0, 5, "c"), list(128, 3, 0, 5, nil))
	wantFollowed(t, 128, image, 2, 5, []api.Page{part(128, 2, 0, 5, "c")}, false)
	for _, head := range []uint32{1, 3, 4, 5, 1<<31 - 1, 1 << 31, 1<<31 + 2, math.MaxUint32} {
		wantFollowed(t, 128, image, head, 5, nil, true)
		wantFollowed(t, 128, image+"ab", head, 5, nil, true)
		wantFollowed(t, 128, "", head, 5, nil, true)
	}
}

// Each page of a chain in turn is one that cannot be read, or of another kind.
func TestFollowEndsAtAWrongPage(t *testing.T) {
	for _, pages := range orders(5) {
		l := parts(128, 5, pages, text(500))
		image := laid(128, l...)
		for i, n := range pages {
			at := int(n) * 128
			other := l[i]
			other.Kind = 6
			elsewhere := l[i]
			elsewhere.Page = 99
			for _, wrong := range []string{
				strings.Repeat("\x00", 128),
				strings.Repeat("\xff", 128),
				text(128),
				block(other),
				block(elsewhere),
				block(l[i])[4:] + "abcd",
			} {
				wantFollowed(t, 128, put(image, at, wrong), pages[0], 5, l[:i], true)
			}
			for _, k := range []int{0, 4, 5, 6, 8, 12, 16, 24, 127} {
				wantFollowed(t, 128, turned(image, at+k, 1), pages[0], 5, l[:i], true)
			}
		}
	}
}

// A page that is not complete is none.
func TestFollowOfACutImage(t *testing.T) {
	l := parts(128, 5, []uint32{2, 3, 4}, text(300))
	image := laid(128, l...)
	for end := range len(image) {
		wantFollowed(t, 128, image[:end], 2, 5, l[:max(end/128-2, 0)], true)
	}
	for _, more := range []string{"a", text(127), text(128), text(1000)} {
		wantFollowed(t, 128, image+more, 2, 5, l, false)
	}
}

// The last page links to each page of the chain in turn, itself among them.
func TestFollowEndsWhereItWasBefore(t *testing.T) {
	for _, length := range []int{1, 2, 3, 6} {
		for _, pages := range orders(length) {
			for i, back := range pages {
				l := parts(128, 5, pages, text(length*104))
				l[length-1].Link = back
				wantFollowed(t, 128, laid(128, l...), pages[0], 5, l, true)
				for from := range i { // each page is yielded once, also if the chain comes back behind its head
					wantFollowed(t, 128, laid(128, l...), pages[from], 5, l[from:], true)
				}
			}
		}
	}
}

func TestFollowOfEachKind(t *testing.T) {
	for kind := 1; kind <= 6; kind++ {
		l := parts(128, 5, []uint32{4, 2}, text(200))
		l[0].Kind, l[1].Kind = kind, kind
		image := laid(128, l...)
		for _, other := range []int{-1, 0, 1, 2, 3, 4, 5, 6, 7, 256 + kind, 1<<32 + kind, -kind, math.MinInt, math.MaxInt} {
			if other == kind {
				wantFollowed(t, 128, image, 4, other, l, false)
			} else {
				wantFollowed(t, 128, image, 4, other, nil, true)
			}
		}
	}
}

// Whether a page is right as such does not matter.
func TestFollowYieldsPagesThatAreNotRight(t *testing.T) {
	l := parts(128, 5, []uint32{2, 3, 4, 5}, text(400))
	l[0].Count = 0
	l[1].Count = 65535
	l[2].Count = 3
	l[3].Count = 1
	wantFollowed(t, 128, laid(128, l...), 2, 5, l, false)
	m := lists(128, 5, []uint32{2, 3, 4}, run(2, 3, 60))
	m[0].Body = text(104)
	m[1].Count = 27
	m[2].Count = 0
	wantFollowed(t, 128, laid(128, m...), 2, 6, m, false)
}

func TestFollowCanBeLeft(t *testing.T) {
	l := parts(128, 5, run(2, 1, 5), text(500))
	l[4].Link = 77
	image := laid(128, l...)
	for stop := 1; stop <= 6; stop++ {
		calls := 0
		chain.Follow(128, image, 2, 5)(func(p api.Page, e api.Errno) bool {
			calls++
			return calls < stop
		})
		if calls != stop {
			t.Errorf("left at step %d, but yielded %d", stop, calls)
		}
	}
}

// Each range begins with the head, also while another one is on its way.
func TestFollowCanBeRangedAgain(t *testing.T) {
	l := parts(128, 5, []uint32{2, 3, 4}, text(300))
	pages := chain.Follow(128, laid(128, l...), 2, 5)
	for range 3 {
		i := 0
		for p, e := range pages {
			if i >= 3 || p != l[i] || e != api.OK {
				t.Fatal(i, p, e)
			}
			i++
			k := 0
			for q, e := range pages {
				if k >= i || q != l[k] || e != api.OK {
					t.Fatal(i, k, q, e)
				}
				k++
				if k == i {
					break
				}
			}
		}
		if i != 3 {
			t.Fatal(i)
		}
	}
}

func TestFollowOfALongChain(t *testing.T) {
	pages := run(20001, math.MaxUint32-1, 10000) // each 2 below the one before it, down to 3
	l := parts(128, 5, pages, text(10000*104))
	wantFollowed(t, 128, laid(128, l...), 20001, 5, l, false)
	l[9999].Link = 10001
	wantFollowed(t, 128, laid(128, l...), 20001, 5, l, true)
}

func TestReadOfTheExample(t *testing.T) {
	value := text(105)
	image := laid(128, part(128, 7, 8, 5, value[:104]), part(128, 8, 0, 5, value[104:]))
	wantValue(t, 128, image, 7, value, []uint32{7, 8})
	wantNoValue(t, 128, image, 8, 105, api.ErrBad)
	wantValue(t, 128, image, 8, value[104:], []uint32{8})
}

func TestReadOfEachLength(t *testing.T) {
	for _, size := range goodSizes {
		for length := 1; length <= 4097; length += 1 + size/100 {
			value := text(length)
			for _, pages := range orders(need(length, size-24))[1:4] {
				image := laid(size, parts(size, 5, pages, value)...)
				wantValue(t, size, image, pages[0], value, pages)
			}
		}
	}
}

func TestReadOfAllBytes(t *testing.T) {
	for _, value := range []string{"\x00", "\xff", strings.Repeat("\x00", 104), strings.Repeat("\x00", 300), "a\x00", "\x00a", "日本\x80\n", text(104) + "\x00"} {
		pages := run(9, 1, need(len(value), 104))
		wantValue(t, 128, laid(128, parts(128, 5, pages, value)...), 9, value, pages)
	}
}

// The document sets no greatest length for what is read.
func TestReadOfMoreThanAValue(t *testing.T) {
	for _, length := range []int{4096, 4097, 5000, 65536, 1 << 18} {
		value := text(length)
		for _, pages := range orders(need(length, 104)) {
			image := laid(128, parts(128, 5, pages, value)...)
			wantValue(t, 128, image, pages[0], value, pages)
			wantNoValue(t, 128, image, pages[0], length-1, api.ErrBad)
			wantNoValue(t, 128, image, pages[0], length+1, api.ErrBad)
		}
	}
}

func TestReadOfOtherLengths(t *testing.T) {
	for _, length := range []int{1, 2, 103, 104, 105, 207, 208, 209, 312} {
		image := laid(128, parts(128, 5, run(2, 1, need(length, 104)), text(length))...)
		for other := -5; other < 500; other++ {
			if other != length {
				wantNoValue(t, 128, image, 2, other, api.ErrBad)
			}
		}
		for _, other := range []int{-length, -104, 1<<32 + length, 1<<31 - 1, math.MinInt, math.MinInt + 1, math.MinInt + length, math.MaxInt, math.MaxInt - 1} {
			wantNoValue(t, 128, image, 2, other, api.ErrBad)
		}
	}
}

func TestReadOfWrongHeads(t *testing.T) {
	image := laid(128, part(128, 0, 0, 5, "a"), part(128, 1, 0, 5, "b"), part(128, 2, 0, 5, "c"), list(128, 3, 0, 5, []uint32{9}))
	wantValue(t, 128, image, 2, "c", []uint32{2})
	for _, head := range []uint32{0, 1, 3, 4, 1<<31 - 1, 1 << 31, 1<<31 + 2, math.MaxUint32} {
		for _, length := range []int{math.MinInt, -1, 0, 1, 2, 104, math.MaxInt} {
			wantNoValue(t, 128, image, head, length, api.ErrBad)
			wantNoValue(t, 128, "", head, length, api.ErrBad)
		}
	}
}

func TestReadOfWrongSizes(t *testing.T) {
	image := laid(128, part(128, 2, 0, 5, "c"))
	for _, size := range wrongSizes {
		for _, head := range []uint32{0, 1, 2, 3, math.MaxUint32} {
			for _, length := range []int{math.MinInt, -1, 0, 1, 2, math.MaxInt} {
				wantNoValue(t, size, image, head, length, api.ErrArg)
				wantNoValue(t, size, "", head, length, api.ErrArg)
			}
		}
	}
	for size := -200; size <= 9000; size++ {
		if isGood(size) {
			wantValue(t, size, laid(size, part(size, 2, 0, 5, "c")), 2, "c", []uint32{2})
			wantNoValue(t, size, "", 0, 0, api.ErrBad)
		} else {
			wantNoValue(t, size, image, 2, 1, api.ErrArg)
		}
	}
}

// A page of the chain is wrong: as a page, as one of a value, or as one in this place.
func TestReadOfAWrongPage(t *testing.T) {
	for _, pages := range orders(4) {
		l := parts(128, 5, pages, text(400))
		wantValue(t, 128, laid(128, l...), pages[0], text(400), pages)
		for i := range pages {
			wrong := func(change func(p *api.Page)) {
				t.Helper()
				m := slices.Clone(l)
				change(&m[i])
				image := laid(128, m...)
				for _, length := range []int{104, 208, 312, 400, 401, 399, 416, 400 - len(m[i].Body) + m[i].Count} {
					wantNoValue(t, 128, image, pages[0], length, api.ErrBad)
				}
			}
			for _, kind := range []int{0, 1, 2, 3, 4, 6, 7, 255} {
				wrong(func(p *api.Page) { p.Kind = kind })
			}
			for _, count := range []int{0, 105, 128, 65535} {
				wrong(func(p *api.Page) { p.Count = count })
			}
			for _, link := range []uint32{1, 999, pages[0], pages[i], 1 << 31, math.MaxUint32} {
				wrong(func(p *api.Page) { p.Link = link })
			}
			wrong(func(p *api.Page) { p.Tx = 1<<62 + 1 })
			if i < 3 { // only the last part may leave room
				wrong(func(p *api.Page) { p.Count, p.Body = 103, text(103)+"\x00" })
				wrong(func(p *api.Page) { p.Count, p.Body = 1, text(1)+strings.Repeat("\x00", 103) })
			} else {
				wrong(func(p *api.Page) { p.Count-- })
				wrong(func(p *api.Page) { p.Body = p.Body[:103] + "a" })
			}
		}
	}
}

func TestReadOfTurnedBytes(t *testing.T) {
	image := laid(128, parts(128, 5, []uint32{4, 2}, text(150))...)
	for i := range image {
		if page := i / 128; page != 4 && page != 2 { // these bytes do not matter
			wantValue(t, 128, turned(image, i, 1), 4, text(150), []uint32{4, 2})
			continue
		}
		for _, turn := range []byte{1, 128, 255} {
			wantNoValue(t, 128, turned(image, i, turn), 4, 150, api.ErrBad)
		}
	}
}

// A chain ends at the first link of 0, whatever pages there are beside it.
func TestReadOfAShorterChain(t *testing.T) {
	for _, pages := range orders(4) {
		for i := range pages {
			l := parts(128, 5, pages, text(416))
			l[i].Link = 0
			image := laid(128, l...)
			wantValue(t, 128, image, pages[0], text(416)[:104*(i+1)], pages[:i+1])
			if i < 3 {
				wantNoValue(t, 128, image, pages[0], 416, api.ErrBad)
				wantValue(t, 128, image, pages[i+1], text(416)[104*(i+1):], pages[i+1:])
			}
		}
	}
}

// The bytes up to some page are as many as asked for, but the chain goes on, well or badly.
func TestReadOfTheBeginningOfAChain(t *testing.T) {
	l := parts(128, 5, run(2, 1, 4), text(400))
	image := laid(128, l...)
	for i := range l[:3] {
		wantNoValue(t, 128, image, 2, (i+1)*104, api.ErrBad)
		wantNoValue(t, 128, put(image, (i+3)*128, text(128)), 2, (i+1)*104, api.ErrBad)
		wantNoValue(t, 128, image[:(i+3)*128], 2, (i+1)*104, api.ErrBad)
	}
}

func TestListOfFreeNumbers(t *testing.T) {
	for _, size := range goodSizes {
		most := (size - 24) / 4
		for _, count := range []int{0, 1, 2, most - 1, most, most + 1, 2 * most, 2*most + 1, 5 * most} {
			for _, more := range []int{0, 1, 3} {
				for _, pages := range orders(max(need(count, most), 1) + more) {
					for _, listed := range [][]uint32{run(2, 1, count), run(50, 3, count), run(1<<31-uint32(count), 1, count)} {
						image := laid(size, lists(size, 5, pages, listed)...)
						wantNumbers(t, size, image, pages[0], listed, pages)
					}
				}
			}
		}
	}
}

func TestListOfHeadZeroIsNothing(t *testing.T) {
	for _, image := range []string{"", "abc", laid(128, list(128, 0, 0, 5, []uint32{3}), list(128, 1, 0, 5, []uint32{4}), list(128, 2, 0, 5, []uint32{9}))} {
		for _, size := range goodSizes {
			wantNumbers(t, size, image, 0, nil, nil)
		}
		for _, size := range wrongSizes {
			wantNoNumbers(t, size, image, 0, api.ErrArg)
		}
	}
}

func TestListOfWrongSizes(t *testing.T) {
	image := laid(128, list(128, 2, 0, 5, []uint32{9}))
	for _, size := range wrongSizes {
		for _, head := range []uint32{1, 2, 3, math.MaxUint32} {
			wantNoNumbers(t, size, image, head, api.ErrArg)
			wantNoNumbers(t, size, "", head, api.ErrArg)
		}
	}
	for size := -200; size <= 9000; size++ {
		if isGood(size) {
			wantNumbers(t, size, laid(size, list(size, 2, 0, 5, []uint32{9})), 2, []uint32{9}, []uint32{2})
		} else {
			wantNoNumbers(t, size, image, 2, api.ErrArg)
		}
	}
}

func TestListOfWrongHeads(t *testing.T) {
	image := laid(128, list(128, 0, 0, 5, []uint32{3}), list(128, 1, 0, 5, []uint32{4}), list(128, 2, 0, 5, []uint32{9}), part(128, 3, 0, 5, "a"))
	wantNumbers(t, 128, image, 2, []uint32{9}, []uint32{2})
	for _, head := range []uint32{1, 3, 4, 1<<31 - 1, 1 << 31, 1<<31 + 2, math.MaxUint32} {
		wantNoNumbers(t, 128, image, head, api.ErrBad)
		wantNoNumbers(t, 128, "", head, api.ErrBad)
	}
}

// chained are pages that list what they are told, full or not, from page 2 on.
func chained(l ...[]uint32) string {
	var all []api.Page
	pages := run(2, 1, len(l))
	for i, listed := range l {
		all = append(all, list(128, pages[i], next(pages, i), 5, listed))
	}
	return laid(128, all...)
}

// The numbers ascend from page to page, and a page may have few or none wherever it is.
func TestListOfPagesThatAreNotFull(t *testing.T) {
	for _, l := range [][][]uint32{
		{nil},
		{nil, nil, nil},
		{nil, {9}},
		{{9}, nil},
		{{3}, nil, {4}},
		{{3}, nil, nil, {4, 5}, nil},
		{{2, 3}, {4}, {5, 9, 12}},
		{{2}, {math.MaxInt32}},
		{{3, 9}, run(10, 1, 26), {math.MaxInt32 - 1}, nil},
		{{2}, {3}}, // the pages themselves
	} {
		wantNumbers(t, 128, chained(l...), 2, slices.Concat(l...), run(2, 1, len(l)))
	}
}

func TestListOfNumbersThatDoNotAscend(t *testing.T) {
	for _, l := range [][][]uint32{
		{{3}, {3}},
		{{9}, {3}},
		{{3, 9}, {9}},
		{{3, 9}, {8, 12}},
		{{3, 9}, {4, 5}, {12}},
		{{3}, nil, {3}},
		{{9}, nil, nil, {3}},
		{{3}, {4}, {4}},
		{{3}, {5}, {4}},
		{{5}, {3}, {4}},
		{{3}, {4}, {3}},
		{{math.MaxInt32}, {2}},
		{run(2, 1, 26), run(27, 1, 26)},
		{{1 << 24}, {1}}, // 1 is not one of a page
		{{3, 3}},
		{{9, 3}},
		{{3}, {9, 8}},
		{{9, 8}, {10}},
		{{0}},
		{{1, 2}},
		{{3}, {1 << 31}},
		{{3, math.MaxUint32}},
	} {
		wantNoNumbers(t, 128, chained(l...), 2, api.ErrBad)
	}
}

func TestListOfAWrongPage(t *testing.T) {
	for _, pages := range orders(4) {
		l := lists(128, 5, pages, run(3, 2, 100))
		wantNumbers(t, 128, laid(128, l...), pages[0], run(3, 2, 100), pages)
		for i := range pages {
			wrong := func(change func(p *api.Page)) {
				t.Helper()
				m := slices.Clone(l)
				change(&m[i])
				wantNoNumbers(t, 128, laid(128, m...), pages[0], api.ErrBad)
			}
			for _, kind := range []int{0, 1, 2, 3, 4, 5, 7, 255} {
				wrong(func(p *api.Page) { p.Kind = kind })
			}
			for _, count := range []int{0, l[i].Count - 1, l[i].Count + 1, 27, 65535} {
				wrong(func(p *api.Page) { p.Count = count })
			}
			for _, link := range []uint32{1, 999, pages[0], pages[i], 1 << 31, math.MaxUint32} {
				wrong(func(p *api.Page) { p.Link = link })
			}
			wrong(func(p *api.Page) { p.Tx = 1<<62 + 1 })
			wrong(func(p *api.Page) { p.Body = p.Body[4:8] + p.Body[:4] + p.Body[8:] })
			wrong(func(p *api.Page) { *p = part(128, p.Page, p.Link, 5, text(104)) })
		}
	}
}

func TestListOfTurnedBytes(t *testing.T) {
	listed := run(3, 2, 40)
	image := laid(128, lists(128, 5, []uint32{4, 2}, listed)...)
	for i := range image {
		if page := i / 128; page != 4 && page != 2 { // these bytes do not matter
			wantNumbers(t, 128, turned(image, i, 1), 4, listed, []uint32{4, 2})
			continue
		}
		for _, turn := range []byte{1, 128, 255} {
			wantNoNumbers(t, 128, turned(image, i, turn), 4, api.ErrBad)
		}
	}
}

// A chain of one kind that goes over into one of the other.
func TestChainsOfTwoKinds(t *testing.T) {
	l := parts(128, 5, []uint32{2, 3, 4}, text(104*3))
	m := lists(128, 5, []uint32{5, 6}, []uint32{9})
	l[2].Link = 5
	image := laid(128, append(l, m...)...)
	wantFollowed(t, 128, image, 2, 5, l, true)
	wantNoValue(t, 128, image, 2, 104*3, api.ErrBad)
	m[1].Link = 2
	image = laid(128, append(l, m...)...)
	wantFollowed(t, 128, image, 5, 6, m, true)
	wantNoNumbers(t, 128, image, 5, api.ErrBad)
}

// followed is what Follow should yield from the pages of an image, told a second time: its pages are at most as many as all.
func followed(all []api.Page, head uint32, kind int) (l []api.Page, wrong bool) {
	for n := head; n != 0; n = l[len(l)-1].Link {
		i := slices.IndexFunc(all, func(p api.Page) bool { return p.Page == n && p.Kind == kind })
		if n < 2 || i < 0 || slices.Contains(l, all[i]) {
			return l, true
		}
		l = append(l, all[i])
	}
	return l, false
}

// wantAsTold holds what is read from an image of some pages against what these tell.
func wantAsTold(t *testing.T, all []api.Page, head uint32) {
	t.Helper()
	image := laid(128, all...)
	l, wrong := followed(all, head, 5)
	wantFollowed(t, 128, image, head, 5, l, wrong)
	value, pages := "", []uint32(nil)
	for _, p := range l {
		wrong = wrong || p.Count < 1 || p.Count > 104 || p.Link != 0 && p.Count < 104 || p != part(128, p.Page, p.Link, p.Tx, p.Body[:p.Count])
		value += p.Body[:min(p.Count, 104)]
		pages = append(pages, p.Page)
	}
	wantNoValue(t, 128, image, head, len(value)-1, api.ErrBad)
	wantNoValue(t, 128, image, head, len(value)+1, api.ErrBad)
	if wrong || value == "" {
		wantNoValue(t, 128, image, head, len(value), api.ErrBad)
	} else {
		wantValue(t, 128, image, head, value, pages)
	}

	l, wrong = followed(all, head, 6)
	wantFollowed(t, 128, image, head, 6, l, wrong)
	listed, pages := []uint32{1}, []uint32(nil) // of which none is less
	for _, p := range l {
		wrong = wrong || p.Count > 26 || p.Body[4*min(p.Count, 26):] != strings.Repeat("\x00", 104-4*min(p.Count, 26))
		for i := range min(p.Count, 26) {
			k := binary.LittleEndian.Uint32([]byte(p.Body[4*i:]))
			wrong = wrong || k <= listed[len(listed)-1] || k > math.MaxInt32
			listed = append(listed, k)
		}
		pages = append(pages, p.Page)
	}
	if wrong {
		wantNoNumbers(t, 128, image, head, api.ErrBad)
	} else {
		wantNumbers(t, 128, image, head, listed[1:], pages)
	}
}

// All images of three pages behind two metas, each of a part or of numbers, or none, with all links there can be.
func TestAllSmallImages(t *testing.T) {
	each := func(n uint32, short string, listed []uint32) []api.Page {
		l := []api.Page{{Kind: 3, Page: n, Body: text(104)}}
		for link := range uint32(6) {
			l = append(l, part(128, n, link, 5, text(104)), list(128, n, link, 5, listed))
		}
		return append(l, part(128, n, 0, 5, short))
	}
	for _, a := range each(2, "a", []uint32{7, 9}) {
		for _, b := range each(3, "bc", []uint32{20}) {
			for _, c := range each(4, "def", []uint32{12}) {
				all := []api.Page{part(128, 0, 0, 5, "m"), list(128, 1, 0, 5, nil), a, b, c}
				for head := range uint32(6) {
					wantAsTold(t, all, head)
				}
			}
		}
	}
}

// fill changes all of a list, its spare capacity too.
func fill[T any](l []T, with T) {
	l = l[:cap(l)]
	for i := range l {
		l[i] = with
	}
}

func TestReadAndListReturnNewLists(t *testing.T) {
	value := parts(128, 5, []uint32{2, 3, 4}, text(300))
	image := laid(128, append(value, lists(128, 5, []uint32{7, 5, 6}, run(10, 1, 60))...)...)
	_, first, _ := chain.Read(128, image, 2, 300)
	_, second, _ := chain.Read(128, image, 2, 300)
	fill(first, 77)
	if !slices.Equal(second, []uint32{2, 3, 4}) {
		t.Error(second)
	}
	wantValue(t, 128, image, 2, text(300), []uint32{2, 3, 4})

	listed, pages, _ := chain.List(128, image, 7)
	fill(pages, 77)
	if !slices.Equal(listed, run(10, 1, 60)) {
		t.Error(listed)
	}
	listed, pages, _ = chain.List(128, image, 7)
	fill(listed, 77)
	if !slices.Equal(pages, []uint32{7, 5, 6}) {
		t.Error(pages)
	}
	wantNumbers(t, 128, image, 7, run(10, 1, 60), []uint32{7, 5, 6})
}

// P11.2

// wantLists asks for pages, and that the lists that the call was passed are as they were, their spare capacity too.
func wantLists(t *testing.T, call func() ([]api.Page, api.Errno), want []api.Page, passed ...[]uint32) {
	t.Helper()
	var before [][]uint32
	for _, l := range passed {
		before = append(before, slices.Clone(l[:cap(l)]))
	}
	if l, e := call(); !slices.Equal(l, want) || e != api.OK {
		t.Errorf("%+v %d, not\n%+v", l, e, want)
	}
	for i, l := range passed {
		if !slices.Equal(l[:cap(l)], before[i]) {
			t.Fatalf("%d changed to %d", before[i], l[:cap(l)])
		}
	}
}

func wantNoLists(t *testing.T, call func() ([]api.Page, api.Errno), passed ...[]uint32) {
	t.Helper()
	var before [][]uint32
	for _, l := range passed {
		before = append(before, slices.Clone(l[:cap(l)]))
	}
	if l, e := call(); len(l) != 0 || e != api.ErrArg {
		t.Errorf("%+v %d, of %d", l, e, passed)
	}
	for i, l := range passed {
		if !slices.Equal(l[:cap(l)], before[i]) {
			t.Fatalf("%d changed to %d", before[i], l[:cap(l)])
		}
	}
}

func wantOn(t *testing.T, size int, tx uint64, pages []uint32, value string) {
	t.Helper()
	wantLists(t, func() ([]api.Page, api.Errno) { return chain.On(size, tx, pages, value) }, parts(size, tx, pages, value), pages)
}

func wantNoOn(t *testing.T, size int, tx uint64, pages []uint32, value string) {
	t.Helper()
	wantNoLists(t, func() ([]api.Page, api.Errno) { return chain.On(size, tx, pages, value) }, pages)
}

func wantPages(t *testing.T, size int, tx uint64, from uint32, value string) {
	t.Helper()
	want := parts(size, tx, run(from, 1, need(len(value), size-24)), value)
	wantLists(t, func() ([]api.Page, api.Errno) { return chain.Pages(size, tx, from, value) }, want)
}

func wantNoPages(t *testing.T, size int, tx uint64, from uint32, value string) {
	t.Helper()
	wantNoLists(t, func() ([]api.Page, api.Errno) { return chain.Pages(size, tx, from, value) })
}

func wantListed(t *testing.T, size int, tx uint64, pages, listed []uint32) {
	t.Helper()
	wantLists(t, func() ([]api.Page, api.Errno) { return chain.Lists(size, tx, pages, listed) }, lists(size, tx, pages, listed), pages, listed)
}

func wantNoListed(t *testing.T, size int, tx uint64, pages, listed []uint32) {
	t.Helper()
	wantNoLists(t, func() ([]api.Page, api.Errno) { return chain.Lists(size, tx, pages, listed) }, pages, listed)
}

func TestPagesOfTheExample(t *testing.T) {
	value := text(105)
	want := []api.Page{
		{Kind: 5, Count: 104, Page: 7, Link: 8, Tx: 3, Body: value[:104]},
		{Kind: 5, Count: 1, Page: 8, Link: 0, Tx: 3, Body: value[104:] + strings.Repeat("\x00", 103)},
	}
	wantLists(t, func() ([]api.Page, api.Errno) { return chain.Pages(128, 3, 7, value) }, want)
}

func TestValuesOfEachLength(t *testing.T) {
	for _, size := range goodSizes {
		for length := 1; length <= 4096; length++ {
			if length > 600 && length < 4090 && length%(size-24) > 1 && length%97 > 0 {
				continue
			}
			pages := need(length, size-24)
			wantPages(t, size, 5, 7, text(length))
			for i, order := range orders(pages) {
				if i == length%5 {
					wantOn(t, size, 5, order, text(length))
				}
			}
			wantNoOn(t, size, 5, run(2, 1, pages-1), text(length))
			wantNoOn(t, size, 5, run(2, 1, pages+1), text(length))
		}
	}
}

func TestValuesThatAreTooLong(t *testing.T) {
	for _, size := range goodSizes {
		for _, length := range []int{0, 4097, 4098, 5000, 65536, 1 << 20} {
			value := text(length)
			pages := need(length, size-24)
			wantNoPages(t, size, 5, 7, value)
			wantNoOn(t, size, 5, run(7, 1, pages), value)
			wantNoOn(t, size, 5, run(7, 1, max(pages-1, 0)), value)
			wantNoOn(t, size, 5, run(7, 1, pages+1), value)
			wantNoOn(t, size, 5, run(7, 1, need(4096, size-24)), value)
		}
	}
}

func TestOnNotAsManyPagesAsParts(t *testing.T) {
	for _, length := range []int{1, 104, 105, 208, 209, 4096} {
		parts := need(length, 104)
		for pages := range 100 {
			if pages != parts {
				wantNoOn(t, 128, 5, run(2, 1, pages), text(length))
				wantNoOn(t, 128, 5, slices.Repeat([]uint32{2}, pages), text(length))
			}
		}
		wantOn(t, 128, 5, run(2, 1, parts), text(length))
	}
}

// Each place of the pages has each number, right or not.
func TestPagesAtEachPlace(t *testing.T) {
	for i := range 4 {
		for n, right := range numbers {
			pages := run(1000, 10, 4)
			pages[i] = n
			if right {
				wantOn(t, 128, 5, pages, text(400))
				wantListed(t, 128, 5, pages, run(2, 3, 100))
				wantListed(t, 128, 5, pages, nil)
			} else {
				wantNoOn(t, 128, 5, pages, text(400))
				wantNoListed(t, 128, 5, pages, run(2, 3, 100))
				wantNoListed(t, 128, 5, pages, nil)
			}
		}
	}
	wantOn(t, 128, 5, []uint32{math.MaxInt32, 2}, text(200))
	wantListed(t, 128, 5, []uint32{math.MaxInt32, 2}, run(2, 3, 30))
}

func TestPagesThatOccurTwice(t *testing.T) {
	for _, length := range []int{2, 3, 7} {
		for i := range length {
			for k := range i {
				for _, pages := range orders(length) {
					pages[i] = pages[k]
					wantNoOn(t, 128, 5, pages, text(104*length))
					wantNoListed(t, 128, 5, pages, run(2, 3, 26*length))
					wantNoListed(t, 128, 5, pages, run(2, 3, 26)) // also if they are more than needed
					wantNoListed(t, 128, 5, pages, nil)
				}
			}
		}
	}
}

func TestPagesOfEachTransaction(t *testing.T) {
	for tx, good := range txs {
		if good {
			wantPages(t, 128, tx, 7, text(200))
			wantOn(t, 128, tx, []uint32{7, 5}, text(200))
			wantListed(t, 128, tx, []uint32{7, 5}, run(2, 3, 30))
			wantListed(t, 128, tx, []uint32{7, 5}, nil)
			wantListed(t, 128, tx, nil, nil)
		} else {
			wantNoPages(t, 128, tx, 7, text(200))
			wantNoOn(t, 128, tx, []uint32{7, 5}, text(200))
			wantNoListed(t, 128, tx, []uint32{7, 5}, run(2, 3, 30))
			wantNoListed(t, 128, tx, []uint32{7, 5}, nil)
			wantNoListed(t, 128, tx, nil, nil)
		}
	}
}

func TestPagesOfEachSize(t *testing.T) {
	wanted := func(size int) {
		t.Helper()
		if isGood(size) {
			wantPages(t, size, 5, 7, text(100))
			wantOn(t, size, 5, []uint32{7}, text(100))
			wantListed(t, size, 5, []uint32{7}, run(2, 3, 20))
			wantListed(t, size, 5, []uint32{7}, nil)
			wantListed(t, size, 5, nil, nil)
			return
		}
		for _, length := range []int{0, 1, 100} {
			wantNoPages(t, size, 5, 7, text(length))
			for _, pages := range [][]uint32{nil, {7}, {7, 8}} {
				wantNoOn(t, size, 5, pages, text(length))
				wantNoListed(t, size, 5, pages, run(2, 3, length))
			}
		}
	}
	for size := -200; size <= 9000; size++ {
		wanted(size)
	}
	for _, size := range wrongSizes {
		wanted(size)
	}
}

func TestPagesFromEachNumber(t *testing.T) {
	for n, right := range numbers {
		if right {
			wantPages(t, 128, 5, n, text(104))
		} else {
			wantNoPages(t, 128, 5, n, text(104))
		}
	}
	for parts := 1; parts <= 39; parts++ {
		last := math.MaxInt32 - uint32(parts) + 1 // from there on they go up to MaxPage
		wantPages(t, 128, 5, last, text(104*parts))
		wantPages(t, 128, 5, last-1, text(104*parts))
		for more := uint32(1); more < 50; more++ {
			wantNoPages(t, 128, 5, last+more, text(104*parts))
		}
		for less := range uint32(50) { // numbers that would go on at 0
			wantNoPages(t, 128, 5, math.MaxUint32-less, text(104*parts))
		}
		wantNoPages(t, 128, 5, 0, text(104*parts))
		wantNoPages(t, 128, 5, 1, text(104*parts))
		wantPages(t, 128, 5, 2, text(104*parts))
	}
}

func TestListsOfEachNumberOfNumbers(t *testing.T) {
	for _, size := range goodSizes {
		most := (size - 24) / 4
		for _, count := range []int{0, 1, 2, most - 1, most, most + 1, 2*most - 1, 2 * most, 2*most + 1, 5 * most, 5*most + 3} {
			listed := run(3, 2, count)
			for pages := range need(count, most) + 5 {
				for _, order := range orders(pages) {
					if pages >= need(count, most) {
						wantListed(t, size, 5, order, listed)
					} else {
						wantNoListed(t, size, 5, order, listed)
					}
				}
			}
		}
	}
}

func TestListsOfSomeNumbers(t *testing.T) {
	want := []api.Page{
		{Kind: 6, Count: 26, Page: 9, Link: 3, Tx: 5, Body: list(128, 0, 0, 0, run(2, 1, 26)).Body},
		{Kind: 6, Count: 2, Page: 3, Link: 7, Tx: 5, Body: "\x1c\x00\x00\x00" + "\x1d\x00\x00\x00" + strings.Repeat("\x00", 96)},
		{Kind: 6, Count: 0, Page: 7, Link: 4, Tx: 5, Body: strings.Repeat("\x00", 104)},
		{Kind: 6, Count: 0, Page: 4, Link: 0, Tx: 5, Body: strings.Repeat("\x00", 104)},
	}
	wantLists(t, func() ([]api.Page, api.Errno) {
		return chain.Lists(128, 5, []uint32{9, 3, 7, 4}, run(2, 1, 28))
	}, want)
	for _, listed := range [][]uint32{nil, {}, {2}, {math.MaxInt32}, {2, math.MaxInt32}, {7, 8}, {255, 256, 65536}, run(2, 1, 52), run(math.MaxInt32-51, 1, 52)} {
		wantListed(t, 128, 5, []uint32{7, 8}, listed) // the pages themselves may be among the numbers
		wantListed(t, 128, 5, []uint32{8, 7, 2, 3}, listed)
	}
}

func TestListsOfWrongNumbers(t *testing.T) {
	for _, listed := range [][]uint32{
		{0}, {1}, {1 << 31}, {math.MaxUint32}, {0, 2}, {1, 2}, {2, 1 << 31}, {2, math.MaxUint32},
		{2, 2}, {3, 2}, {9, 3}, {2, 4, 3}, {2, 3, 3}, {2, 2, 3}, {3, 2, 4}, {math.MaxInt32, 2}, {256, 255},
	} {
		for _, pages := range [][]uint32{{7}, {7, 8}, {9, 5, 4}} {
			wantNoListed(t, 128, 5, pages, listed)
		}
	}
	for i := range 60 { // three pages, and each place in them
		pages := []uint32{4, 9, 3}
		listed := run(1000, 10, 60)
		for _, k := range []uint32{0, 1, 1 << 31, math.MaxUint32} {
			listed[i] = k
			wantNoListed(t, 128, 5, pages, listed)
		}
		if i > 0 {
			listed[i] = listed[i-1]
			wantNoListed(t, 128, 5, pages, listed)
			listed[i] = listed[i-1] - 1
			wantNoListed(t, 128, 5, pages, listed)
			listed[i] = listed[i-1] + 1
			wantListed(t, 128, 5, pages, listed)
		}
	}
}

// Nothing counts that lies behind what is passed.
func TestSpareCapacityDoesNotCount(t *testing.T) {
	for _, behind := range []uint32{0, 1, 3, 9, 10, math.MaxUint32} {
		pages := slices.Repeat([]uint32{behind}, 9)
		copy(pages, []uint32{9, 3})
		listed := slices.Repeat([]uint32{behind}, 99)
		copy(listed, run(5, 2, 30))
		wantOn(t, 128, 5, pages[:2], text(200))
		wantListed(t, 128, 5, pages[:2], listed[:30])
		wantListed(t, 128, 5, pages[:2], listed[:0])
		wantNoOn(t, 128, 5, pages[:2], text(300))
		wantNoListed(t, 128, 5, pages[:1], listed[:30])
	}
}

func TestPagesAreNew(t *testing.T) {
	for _, call := range []func() ([]api.Page, api.Errno){
		func() ([]api.Page, api.Errno) { return chain.Pages(128, 5, 7, text(300)) },
		func() ([]api.Page, api.Errno) { return chain.On(128, 5, []uint32{7, 5, 9}, text(300)) },
		func() ([]api.Page, api.Errno) { return chain.Lists(128, 5, []uint32{7, 5, 9}, run(2, 3, 30)) },
	} {
		first, _ := call()
		second, _ := call()
		kept := slices.Clone(second)
		fill(first, api.Page{Kind: 3})
		third, _ := call()
		if len(kept) != 3 || !slices.Equal(second, kept) || !slices.Equal(third, kept) {
			t.Errorf("%+v, %+v, not %+v", second, third, kept)
		}
	}
}

func TestPagesKeepNothing(t *testing.T) {
	pages, listed := []uint32{7, 5}, run(2, 3, 30)
	values, _ := chain.On(128, 5, pages, text(200))
	free, _ := chain.Lists(128, 5, pages, listed)
	fill(pages, 77)
	fill(listed, 77)
	if !slices.Equal(values, parts(128, 5, []uint32{7, 5}, text(200))) || !slices.Equal(free, lists(128, 5, []uint32{7, 5}, run(2, 3, 30))) {
		t.Errorf("%+v %+v", values, free)
	}
}

// P11.3

func wantLaid(t *testing.T, size int, image string, l []api.Page, want string) {
	t.Helper()
	given := slices.Clone(l)
	if got, e := chain.Lay(size, image, l); got != want || e != api.OK {
		t.Errorf("Lay of size %d, %d bytes, %d pages: %d bytes, %d, not %d bytes", size, len(image), len(l), len(got), e, len(want))
	}
	if !slices.Equal(l, given) {
		t.Fatalf("Lay changed %+v to %+v", given, l)
	}
}

func wantNotLaid(t *testing.T, size int, image string, l []api.Page) {
	t.Helper()
	if got, e := chain.Lay(size, image, l); got != "" || e != api.ErrArg {
		t.Errorf("Lay of size %d, %d bytes, %+v: %q %d", size, len(image), l, got, e)
	}
}

// written is an image with pages written by a device.
func written(size int, image string, l []api.Page) string {
	d, _ := device.New(size, 10000, image)
	for _, p := range l {
		d.Write(p.Page, block(p))
	}
	return d.Image()
}

func TestLayReplacesAndExtends(t *testing.T) {
	a, b := part(128, 1, 0, 5, "a"), part(128, 3, 0, 5, "b")
	zeros := strings.Repeat("\x00", 128)
	for _, c := range []struct {
		image string
		l     []api.Page
		want  string
	}{
		{"", []api.Page{a}, zeros + block(a)},
		{"", []api.Page{b}, zeros + zeros + zeros + block(b)},
		{"", []api.Page{a, b}, zeros + block(a) + zeros + block(b)},
		{"", []api.Page{b, a}, zeros + block(a) + zeros + block(b)},
		{"xyz", []api.Page{a}, "xyz" + zeros[3:] + block(a)},
		{text(128), []api.Page{a}, text(128) + block(a)},
		{text(129), []api.Page{a}, text(128) + block(a)},
		{text(255), []api.Page{a}, text(128) + block(a)},
		{text(256), []api.Page{a}, text(128) + block(a)},
		{text(257), []api.Page{a}, text(128) + block(a) + text(257)[256:]},
		{text(300), []api.Page{a}, text(128) + block(a) + text(300)[256:]}, // what is not a page stays
		{text(300), []api.Page{b}, text(300) + zeros[:84] + block(b)},
		{text(900), []api.Page{b, a}, text(128) + block(a) + text(384)[256:] + block(b) + text(900)[512:]},
	} {
		wantLaid(t, 128, c.image, c.l, c.want)
	}
}

func TestLayOfTheSamePageTwice(t *testing.T) {
	a, b, c := part(128, 2, 0, 5, "a"), list(128, 2, 9, 6, []uint32{3}), part(128, 2, 0, 7, "c")
	for _, image := range []string{"", text(300), text(1000)} {
		for _, l := range [][]api.Page{{a, b}, {b, a}, {a, b, a}, {a, a}, {c, b, a}, {a, b, c}, {part(128, 4, 0, 5, "d"), c, part(128, 0, 0, 5, "e"), a}} {
			wantLaid(t, 128, image, l, written(128, image, l))
		}
	}
}

func TestLayOfWhatADeviceWrites(t *testing.T) {
	for _, size := range goodSizes {
		for _, length := range []int{0, 1, 127, 128, 129, size - 1, size, size + 1, 3*size - 1, 3 * size, 3*size + 1, 20 * size, 40*size + 7} {
			for _, pages := range orders(6) {
				l := append(parts(size, 5, pages, text(6*(size-24))), lists(size, 1<<62, run(3, 4, 3), run(2, 3, 9))...)
				wantLaid(t, size, text(length), l, written(size, text(length), l))
				wantLaid(t, size, text(length), l[3:], written(size, text(length), l[3:]))
			}
		}
	}
}

// Pages are laid whatever they contain, as long as they are valid.
func TestLayOfEachValidPage(t *testing.T) {
	for kind := 1; kind <= 6; kind++ {
		for _, count := range []int{0, 1, 105, 65535} {
			for _, link := range []uint32{0, 1, 2, math.MaxInt32} {
				for tx, good := range txs {
					p := api.Page{Kind: kind, Count: count, Page: 3, Link: link, Tx: tx, Body: text(104)}
					if good {
						wantLaid(t, 128, text(200), []api.Page{p}, written(128, text(200), []api.Page{p}))
					} else {
						wantNotLaid(t, 128, text(200), []api.Page{p})
					}
				}
			}
		}
	}
	for n := range uint32(20) {
		l := []api.Page{part(128, n, 1, 5, "abc")}
		wantLaid(t, 128, text(1000), l, written(128, text(1000), l))
	}
}

// A page that is not valid, wherever it is, also beside one that is too far behind for any memory.
func TestLayOfPagesThatAreNotValid(t *testing.T) {
	good := part(128, 3, 0, 5, "a")
	far := part(128, math.MaxInt32, 0, 5, "a")
	for _, change := range []func(p *api.Page){
		func(p *api.Page) { p.Kind = 0 },
		func(p *api.Page) { p.Kind = 7 },
		func(p *api.Page) { p.Kind = -1 },
		func(p *api.Page) { p.Kind = 256 + 5 },
		func(p *api.Page) { p.Count = -1 },
		func(p *api.Page) { p.Count = 65536 },
		func(p *api.Page) { p.Page = 1 << 31 },
		func(p *api.Page) { p.Page = math.MaxUint32 },
		func(p *api.Page) { p.Link = 1 << 31 },
		func(p *api.Page) { p.Link = math.MaxUint32 },
		func(p *api.Page) { p.Tx = 1<<62 + 1 },
		func(p *api.Page) { p.Body = "" },
		func(p *api.Page) { p.Body = p.Body[1:] },
		func(p *api.Page) { p.Body += "a" },
		func(p *api.Page) { *p = api.Page{} },
	} {
		wrong := good
		change(&wrong)
		for _, l := range [][]api.Page{{wrong}, {wrong, good}, {good, wrong}, {good, good, wrong, good}, {far, wrong}, {wrong, far}} {
			for _, image := range []string{"", "abc", text(1000)} {
				wantNotLaid(t, 128, image, l)
			}
		}
	}
}

func TestLayOfWrongSizes(t *testing.T) {
	for _, size := range append(wrongSizes, 192, 4096) {
		wantNotLaid(t, size, text(300), []api.Page{part(128, 3, 0, 5, "a")})
		wantNotLaid(t, size, "", []api.Page{{}})
	}
	for size := 24; size <= 4300; size++ {
		l := []api.Page{part(size, 1, 0, 5, "")}
		if isGood(size) {
			wantLaid(t, size, "abc", l, written(size, "abc", l))
		} else {
			wantNotLaid(t, size, "abc", l)
		}
	}
}

// Of no pages none is wrong.
func TestLayOfNoPages(t *testing.T) {
	for _, image := range []string{"", "a", text(128), text(1000)} {
		for _, size := range slices.Concat(goodSizes, wrongSizes) {
			wantLaid(t, size, image, nil, image)
			wantLaid(t, size, image, []api.Page{}, image)
		}
	}
}

// There are pages behind all that a device has room for.
func TestLayOfAPageBehindAnyDevice(t *testing.T) {
	p := part(128, 1<<20, 0, 5, "a")
	image, e := chain.Lay(128, "abc", []api.Page{p})
	if e != api.OK || len(image) != (1<<20+1)*128 || image[:3] != "abc" || image[1<<20*128:] != block(p) || strings.Trim(image[3:1<<20*128], "\x00") != "" {
		t.Error(len(image), e)
	}
	wantValue(t, 128, image, 1<<20, "a", []uint32{1 << 20})
}

func TestLayReadsNoSpareCapacity(t *testing.T) {
	l := []api.Page{part(128, 1, 0, 5, "a"), part(128, 2, 0, 5, "b"), {}}
	wantLaid(t, 128, "", l[:1], written(128, "", l[:1]))
	if l[1] != part(128, 2, 0, 5, "b") {
		t.Errorf("%+v", l[1])
	}
}

// P11.4

// wantReadBack asks that a value and numbers that are laid over an image, on pages of which none is in both, are read back.
func wantReadBack(t *testing.T, size int, image, value string, values, pages, listed []uint32) {
	t.Helper()
	l, e := chain.On(size, 5, values, value)
	m, f := chain.Lists(size, 6, pages, listed)
	if e != api.OK || f != api.OK {
		t.Fatalf("size %d, %d bytes on %d, %d on %d: %d %d", size, len(value), values, listed, pages, e, f)
	}
	image, e = chain.Lay(size, image, append(l, m...))
	if e != api.OK {
		t.Fatalf("size %d, %+v %+v: %d", size, l, m, e)
	}
	wantFollowed(t, size, image, values[0], 5, l, false)
	wantFollowed(t, size, image, pages[0], 6, m, false)
	wantValue(t, size, image, values[0], value, values)
	wantNumbers(t, size, image, pages[0], listed, pages)
}

func TestWhatWasLaidIsReadBack(t *testing.T) {
	for _, size := range goodSizes {
		most := (size - 24) / 4
		for _, length := range []int{1, 2, 100, size - 25, size - 24, size - 23, 3 * (size - 24), 4095, 4096} {
			length = min(length, 4096)
			for _, count := range []int{0, 1, most, most + 1, 3 * most} {
				for i, values := range orders(need(length, size-24)) {
					pages := orders(need(count, most) + 2)[4-i]
					for k := range pages {
						pages[k] += 200
					}
					wantReadBack(t, size, text(i*1000), text(length), values, pages, run(2, 3, count))
				}
			}
		}
	}
}

func TestPagesAreReadBack(t *testing.T) {
	for _, size := range goodSizes {
		image := ""
		for from := uint32(2); from < 300; from += 50 {
			value := text(int(from)*13 + 1)
			l, e := chain.Pages(size, 5, from, value)
			if e != api.OK {
				t.Fatal(size, from, e)
			}
			image, e = chain.Lay(size, image, l)
			if e != api.OK {
				t.Fatal(size, from, e)
			}
		}
		for from := uint32(2); from < 300; from += 50 {
			value := text(int(from)*13 + 1)
			wantValue(t, size, image, from, value, run(from, 1, need(len(value), size-24)))
		}
	}
}

// places are as many pages as told, none twice, that bytes choose as long as there are any.
func places(b string, want int) []uint32 {
	var l []uint32
	n := uint32(2)
	for i := 0; len(l) < want; i++ {
		if i < len(b) {
			n = 2 + (n+uint32(b[i]))%1000
		}
		for slices.Contains(l, n) {
			n++
		}
		l = append(l, n)
	}
	return l
}

func FuzzReadBack(f *testing.F) {
	f.Add(0, "", "abc", "\x05\x01\xff", uint8(1))
	f.Add(3, text(1000), text(3000), text(77), uint8(200))
	f.Add(62, "", text(4096), "", uint8(0))
	f.Fuzz(func(t *testing.T, size int, image, value, steps string, count uint8) {
		size = 128 + 64*(size&(1<<62-1)%63)
		if value == "" || len(value) > 4096 {
			return
		}
		values, pages := need(len(value), size-24), need(int(count), (size-24)/4)+1
		all := places(steps, values+pages)
		wantReadBack(t, size, image, value, all[:values], all[values:], run(2, 5, int(count)))
	})
}

// Each four bytes make a page: its kind, its link, and what it says, right or not.
func FuzzImages(f *testing.F) {
	f.Add("\x00\x00\x09\x00", uint32(2))
	f.Add("\x00\x03\x68\x00\x00\x02\x68\x00", uint32(2))
	f.Add("\x01\x03\x01\x00\x01\x04\x02\x09\x01\x00\x02\x20", uint32(2))
	f.Fuzz(func(t *testing.T, s string, head uint32) {
		if len(s) > 4*200 {
			return
		}
		all := []api.Page{part(128, 0, 0, 5, "m"), list(128, 1, 0, 5, nil)}
		for n := uint32(2); len(s) >= 4; n++ {
			link := uint32(s[1])
			switch s[0] % 4 {
			case 0:
				all = append(all, part(128, n, link, 5, text(int(s[2])%105)))
			case 1:
				all = append(all, list(128, n, link, 5, run(uint32(s[3]), 1, int(s[2])%27)))
			case 2:
				all = append(all, part(128, n, link, 5, text(104)))
			case 3:
				p := list(128, n, link, 5, run(2, 1, 26))
				p.Kind = int(s[3])%6 + 1
				p.Count = int(s[2])
				all = append(all, p)
			}
			s = s[4:]
		}
		wantAsTold(t, all, head)
	})
}

func FuzzLay(f *testing.F) {
	f.Add("abc", "\x05\x00\x01")
	f.Add(text(1000), text(20))
	f.Fuzz(func(t *testing.T, image, pages string) {
		var l []api.Page
		for i := range pages {
			l = append(l, part(128, uint32(pages[i]), 0, uint64(i), pages[:i%105]))
		}
		wantLaid(t, 128, image, l, written(128, image, l))
	})
}
