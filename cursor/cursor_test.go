package cursor_test

import (
	"iter"
	"math"
	"slices"
	"strings"
	"testing"

	"careenage/api"
	"careenage/cursor"
)

// wantSteps asks for what an iterator yields, and for nothing after it.
func wantSteps(t *testing.T, what string, seq iter.Seq2[api.Pair, api.Errno], want []step) {
	t.Helper()
	var got []step
	for p, e := range seq {
		got = append(got, step{p, e})
		if len(got) > len(want) {
			break
		}
	}
	if !slices.Equal(got, want) {
		t.Errorf("%s:\n%v, not\n%v", what, got, want)
	}
}

func wantAll(t *testing.T, size int, image string, root uint32, pairs []api.Pair, wrong api.Errno) {
	t.Helper()
	wantSteps(t, "All", cursor.All(size, image, root), told(pairs, wrong))
}

func wantFrom(t *testing.T, size int, image string, root uint32, key string, pairs []api.Pair, wrong api.Errno) {
	t.Helper()
	wantSteps(t, "From "+key, cursor.From(size, image, root, key), told(pairs, wrong))
}

func wantPages(t *testing.T, size int, image string, root uint32, pages []uint32, wrong api.Errno) {
	t.Helper()
	if l, e := cursor.Pages(size, image, root); !slices.Equal(l, pages) || e != wrong {
		t.Errorf("Pages of size %d, %d bytes, from %d: %d %d, not %d %d", size, len(image), root, l, e, pages, wrong)
	}
}

func wantPath(t *testing.T, size int, image string, root uint32, key string, path []uint32, wrong api.Errno) {
	t.Helper()
	if l, e := cursor.Path(size, image, root, key); !slices.Equal(l, path) || e != wrong {
		t.Errorf("Path of size %d, %d bytes, from %d, %q: %d %d, not %d %d", size, len(image), root, key, l, e, path, wrong)
	}
}

func wantGet(t *testing.T, size int, image string, root uint32, key, value string, wrong api.Errno) {
	t.Helper()
	if s, e := cursor.Get(size, image, root, key); s != value || e != wrong {
		t.Errorf("Get of size %d, %d bytes, from %d, %q: %q %d, not %q %d", size, len(image), root, key, s, e, value, wrong)
	}
}

func wantDepth(t *testing.T, size int, image string, root uint32, depth int, wrong api.Errno) {
	t.Helper()
	if n, e := cursor.Depth(size, image, root); n != depth || e != wrong {
		t.Errorf("Depth of size %d, %d bytes, from %d: %d %d, not %d %d", size, len(image), root, n, e, depth, wrong)
	}
}

// wantTraversal asks for a traversal of pairs and pages that does not fail.
func wantTraversal(t *testing.T, size int, image string, root uint32, pairs []api.Pair, pages []uint32) {
	t.Helper()
	wantAll(t, size, image, root, pairs, api.OK)
	wantPages(t, size, image, root, pages, api.OK)
}

// wantFailure asks for a traversal that fails after some pairs.
func wantFailure(t *testing.T, size int, image string, root uint32, pairs []api.Pair, wrong api.Errno) {
	t.Helper()
	wantAll(t, size, image, root, pairs, wrong)
	wantPages(t, size, image, root, nil, wrong)
}

// wantAsTold asks for all that a tree of a book has, by what the book is meant to be.
func wantAsTold(t *testing.T, size int, b book, image string, root uint32, keys ...string) {
	t.Helper()
	steps, pages := b.traversed(size, root)
	e := api.OK
	if len(steps) > 0 {
		e = steps[len(steps)-1].e
	}
	wantSteps(t, "All", cursor.All(size, image, root), steps)
	wantPages(t, size, image, root, pages, e)
	path, _, right := b.descended(root, "")
	if right {
		wantDepth(t, size, image, root, len(path), api.OK)
	} else {
		wantDepth(t, size, image, root, 0, api.ErrBad)
	}
	for _, key := range keys {
		wantSteps(t, "From "+key, cursor.From(size, image, root, key), from(steps, key))
		value, e := b.got(size, root, key)
		wantGet(t, size, image, root, key, value, e)
		if path, _, right := b.descended(root, key); right {
			wantPath(t, size, image, root, key, path, api.OK)
		} else {
			wantPath(t, size, image, root, key, nil, api.ErrBad)
		}
	}
	if t.Failed() {
		t.Fatalf("size %d, root %d, %+v", size, root, b)
	}
}

// list are pairs of keys and values, by turns.
func list(texts ...string) []api.Pair {
	var l []api.Pair
	for i := 0; i < len(texts); i += 2 {
		l = append(l, api.Pair{Key: texts[i], Value: texts[i+1]})
	}
	return l
}

// pairs are letters with their places.
func pairs(letters string) []api.Pair {
	var l []api.Pair
	for _, r := range letters {
		l = append(l, api.Pair{Key: string(r), Value: string(r - 'a' + '1')})
	}
	return l
}

// three is a tree of a, b and c, with the root 4.
func three() book {
	return book{
		2: items(in("a", "1"), in("b", "2")),
		3: items(in("c", "3")),
		4: forks(fork("", 2), fork("c", 3)),
	}
}

// mixed is a tree of three levels, with chains, and pages in no order; its root is 9. Pages 2, 6 and 14 are not of it.
func mixed(size int) (book, []api.Pair, []uint32) {
	b := book{
		9:  forks(fork("", 3), fork("m", 11)),
		3:  forks(fork("b", 12), fork("e", 4)),
		11: forks(fork("m", 5)),
		12: items(in("b", "x"), over("c", 2*size-47, 8), in("d", "")),
		4:  items(over("e", 1, 7)),
		5:  items(over("m", size-24, 10), over("n", 2*size-48, 16), in("o", "y")),
		2:  items(in("a", "unused")),
		6:  forks(fork("", 2)),
	}
	b.chained(size, text(2*size-47), 8, 18, 15)
	b.chained(size, "z", 7)
	b.chained(size, text(size-24), 10)
	b.chained(size, text(2*size-48), 16, 13)
	b.chained(size, "unused", 14)
	pairs := list("b", "x", "c", text(2*size-47), "d", "", "e", "z", "m", text(size-24), "n", text(2*size-48), "o", "y")
	return b, pairs, []uint32{9, 3, 12, 8, 18, 15, 4, 7, 11, 5, 10, 16, 13}
}

// wrongBlocks are bytes that are not a node as page n, although the first of them are nearly one.
func wrongBlocks(size int, n uint32) []string {
	leaf := items(in("a", "1")).block(size, n)
	return []string{
		items(in("a", "1")).block(size, n+1), // the number of another page
		sealed(size, 4, 1, n, 9, []byte("\x00\x01a\x011")),
		sealed(size, 4, 0, n, 0, nil),
		sealed(size, 4, 2, n, 0, []byte("\x00\x01b\x011\x00\x01a\x011")),              // keys that do not ascend
		sealed(size, 4, 1, n, 0, []byte("\x01\x01a\x00\x00\x00\x00\x05\x00\x00\x00")), // a chain of no bytes
		sealed(size, 4, 1, n, 0, []byte("\x01\x01a\x01\x00\x00\x00\x01\x00\x00\x00")), // a chain on a meta
		sealed(size, 4, 1, n, 0, []byte("\x00\x01a\x011\x00\x01")),
		sealed(size, 3, 1, n, 0, []byte("\x00\x01\x00\x00\x00")), // a child that is a meta
		sealed(size, 3, 1, n, 0, []byte("\x00\x00\x00\x00\x00")),
		sealed(size, 3, 0, n, 0, nil),
		sealed(size, 3, 2, n, 0, []byte("\x00\x02\x00\x00\x00\x00\x02\x00\x00\x00")),
		sealed(size, 1, 1, n, 0, []byte("\x00\x01a\x011")),
		sealed(size, 2, 1, n, 0, []byte("\x00\x01a\x011")),
		sealed(size, 5, 1, n, 0, []byte("a")),
		sealed(size, 6, 0, n, 0, nil),
		sealed(size, 0, 1, n, 0, []byte("\x00\x01a\x011")),
		sealed(size, 7, 1, n, 0, []byte("\x00\x01a\x011")),
		leaf[:size-1] + "\x01",
		string([]byte{leaf[0] ^ 1}) + leaf[1:],
		strings.Repeat("\x00", size),
		strings.Repeat("\xff", size),
		text(size),
	}
}

// spine is a tree of as many levels, one node each, with the root 2, and a leaf of key k at its end.
func spine(levels int) book {
	b := book{}
	for n := uint32(2); int(n) <= levels; n++ {
		b[n] = forks(fork("", n+1))
	}
	b[uint32(levels)+1] = items(in("k", "v"))
	return b
}

// run are numbers from one on.
func run(from uint32, length int) []uint32 {
	var l []uint32
	for i := range length {
		l = append(l, from+uint32(i))
	}
	return l
}

// P12.1

func TestTheExample(t *testing.T) {
	for _, size := range goodSizes {
		image := three().image(size)
		wantFrom(t, size, image, 4, "b", list("b", "2", "c", "3"), api.OK)
		wantTraversal(t, size, image, 4, pairs("abc"), []uint32{4, 2, 3})
		wantTraversal(t, size, image, 2, pairs("ab"), []uint32{2})
		wantTraversal(t, size, image, 3, pairs("c"), []uint32{3})
	}
}

func TestAnEmptyTree(t *testing.T) {
	for _, size := range goodSizes {
		for _, image := range []string{"", "a", three().image(size), text(3 * size)} {
			wantTraversal(t, size, image, 0, nil, nil)
			wantFrom(t, size, image, 0, "", nil, api.OK)
			wantFrom(t, size, image, 0, "k", nil, api.OK)
		}
	}
}

func TestTraversalOfWrongSizes(t *testing.T) {
	for _, size := range wrongSizes {
		for _, image := range []string{"", three().image(128), three().image(4096)} {
			for _, root := range []uint32{0, 1, 2, 4, 5, math.MaxUint32} {
				wantFailure(t, size, image, root, nil, api.ErrArg)
				wantFrom(t, size, image, root, "", nil, api.ErrArg)
				wantFrom(t, size, image, root, "z", nil, api.ErrArg)
			}
		}
	}
	wantFailure(t, 192, three().image(128), 4, nil, api.ErrBad) // a good size, but another one
}

func TestTraversalInOrder(t *testing.T) {
	for _, size := range mixedSizes {
		b, pairs, pages := mixed(size)
		image := b.image(size)
		wantTraversal(t, size, image, 9, pairs, pages)
		wantTraversal(t, size, image, 3, pairs[:4], pages[1:8])
		wantTraversal(t, size, image, 12, pairs[:3], pages[2:6])
		wantTraversal(t, size, image, 11, pairs[4:], pages[8:])
		wantTraversal(t, size, image+"rest", 9, pairs, pages)
		wantTraversal(t, size, image+text(3*size), 9, pairs, pages)
	}
}

// Keys, values and numbers at the edges, as a leaf tells them.
func TestTraversalOfAllKindsOfItems(t *testing.T) {
	long := strings.Repeat("\xff", 40)
	b := book{2: items(in("", ""), in("\x00", "\x00\x00"), in("a", text(255)), in("日本", "\x80"), in(long, text(140)))}
	want := list("", "", "\x00", "\x00\x00", "a", text(255), "日本", "\x80", long, text(140))
	wantTraversal(t, 1024, b.image(1024), 2, want, []uint32{2})
	for _, length := range []int{1, 2, 16, 17, 103, 104, 105, 207, 208, 209, 4095, 4096} {
		count := (length + 103) / 104
		c := book{2: items(over("k", length, 3))}
		c.chained(128, text(length), run(3, count)...)
		wantTraversal(t, 128, c.image(128), 2, list("k", text(length)), run(2, 1+count))
	}
}

// What a tree should be besides, the order of its keys and the depth of its leaves, is not asked.
func TestTraversalOfKeysInAnyOrder(t *testing.T) {
	b := book{
		2: forks(fork("b", 3), fork("m", 4), fork("x", 5)),
		3: items(in("m", "1"), in("z", "2")),
		4: forks(fork("m", 6), fork("n", 7)),
		5: items(in("", "3")),
		6: items(in("a", "4"), in("z", "5")),
		7: forks(fork("", 8)),
		8: items(in("a", "6")),
	}
	want := list("m", "1", "z", "2", "a", "4", "z", "5", "a", "6", "", "3")
	image := b.image(128)
	wantTraversal(t, 128, image, 2, want, []uint32{2, 3, 4, 6, 7, 8, 5})
	wantFrom(t, 128, image, 2, "", want, api.OK)
	wantFrom(t, 128, image, 2, "a", want[:5], api.OK)
	wantFrom(t, 128, image, 2, "b", list("m", "1", "z", "2", "z", "5"), api.OK)
	wantFrom(t, 128, image, 2, "n", list("z", "2", "z", "5"), api.OK)
}

func TestFromEachKey(t *testing.T) {
	for _, size := range mixedSizes {
		b, pairs, _ := mixed(size)
		image := b.image(size)
		for first, keys := range [][]string{{"", "a", "azzz", "b"}, {"b\x00", "bz", "c"}, {"d"}, {"da", "e"}, {"f", "l", "lz", "m"}, {"m\x00", "n"}, {"nn", "o"}, {"o\x00", "p", "\xff", strings.Repeat("z", 41), strings.Repeat("z", 5000)}} {
			for _, key := range keys {
				wantFrom(t, size, image, 9, key, pairs[first:], api.OK)
			}
		}
	}
}

func TestWrongRoots(t *testing.T) {
	b := three()
	b[0], b[1] = items(in("a", "1")), forks(fork("", 2))
	for _, size := range []int{128, 4096} {
		image := b.image(size)
		for _, root := range []uint32{1, 5, 6, 1 << 20, 1<<25 + 2, 1<<31 - 1, 1 << 31, 1<<31 + 4, math.MaxUint32} {
			for _, image := range []string{"", image, image[:5*size-1], image[:4*size+1]} {
				wantFailure(t, size, image, root, nil, api.ErrBad)
			}
		}
		wantFailure(t, size, image[:5*size-1], 4, nil, api.ErrBad) // a page that is not complete
	}
}

// failing tells the pairs that come before the failure, where a page of mixed is wrong.
func failing(n uint32) int {
	return map[uint32]int{9: 0, 3: 0, 12: 0, 8: 1, 18: 1, 15: 1, 4: 3, 7: 3, 11: 4, 5: 4, 10: 4, 16: 5, 13: 5}[n]
}

// Each page of a tree in turn is wrong: the pairs before it are yielded, also by From, then the failure, whatever the key.
func TestTraversalFailsAtAWrongPage(t *testing.T) {
	for _, size := range []int{128, 256} {
		b, pairs, pages := mixed(size)
		image := b.image(size)
		for _, n := range pages {
			before := pairs[:failing(n)]
			for _, block := range wrongBlocks(size, n) {
				if b[n].bytes != "" && block[4] == 5 {
					continue // it is a part of a value; see the lengths below
				}
				wrong := put(size, image, n, block)
				wantFailure(t, size, wrong, 9, before, api.ErrBad)
				for _, key := range []string{"", "c", "e", "n", "zz"} {
					wantSteps(t, "From "+key, cursor.From(size, wrong, 9, key), from(told(before, api.ErrBad), key))
				}
			}
		}
		for _, n := range []uint32{0, 1, 2, 6, 14, 17} { // not of the tree
			for _, block := range wrongBlocks(size, n) {
				wantTraversal(t, size, put(size, image, n, block), 9, pairs, pages)
			}
		}
	}
}

// Of a page that is part of a tree no byte can be another one.
func TestTraversalFailsAtEachByte(t *testing.T) {
	b, pairs, pages := mixed(128)
	image := b.image(128)
	for _, n := range pages {
		for at := int(n) * 128; at < int(n+1)*128; at++ {
			wrong := image[:at] + string([]byte{image[at] ^ 1<<(at%8)}) + image[at+1:]
			wantFailure(t, 128, wrong, 9, pairs[:failing(n)], api.ErrBad)
		}
	}
}

func TestTraversalOfACutImage(t *testing.T) {
	b, pairs, pages := mixed(128)
	image := b.image(128)
	for end := range len(image) {
		first := len(pairs)
		for _, n := range pages {
			if int(n+1)*128 > end {
				first = min(first, failing(n))
			}
		}
		wantFailure(t, 128, image[:end], 9, pairs[:first], api.ErrBad)
	}
}

// A chain is wrong by its length, or by one of its pages.
func TestTraversalFailsAtAWrongChain(t *testing.T) {
	b := func(length int) book {
		b := book{2: forks(fork("", 3), fork("b", 4)), 3: items(in("a", "1"), over("aa", length, 5)), 4: items(in("b", "2"))}
		b.chained(128, text(209), 5, 6, 7)
		return b
	}
	wantAsTold(t, 128, b(209), b(209).image(128), 2, "aa")
	wantTraversal(t, 128, b(209).image(128), 2, list("a", "1", "aa", text(209), "b", "2"), []uint32{2, 3, 5, 6, 7, 4})
	for _, length := range []int{1, 104, 105, 207, 208, 210, 211, 312, 313, 4096} {
		wantFailure(t, 128, b(length).image(128), 2, pairs("a"), api.ErrBad)
	}
	for _, change := range []func(book){
		func(b book) { delete(b, 5) },
		func(b book) { delete(b, 7) },
		func(b book) { b[5] = sheet{bytes: text(103), link: 6} },
		func(b book) { b[7] = sheet{bytes: text(2)} },
		func(b book) { b[7] = items(in("a", "1")) },
		func(b book) { b[5] = forks(fork("", 6)) },
		func(b book) { b[6] = sheet{bytes: text(104), link: 1} },
		func(b book) { b[6] = sheet{bytes: text(104), link: 99} },
		func(b book) { b[6] = sheet{bytes: text(104), link: 5} },
		func(b book) { b[6] = sheet{bytes: text(104), link: 6} },
		func(b book) { b[6] = sheet{bytes: text(104), link: 3} },
		func(b book) { b[3] = items(in("a", "1"), over("aa", 209, 99)) },
		func(b book) { b[3] = items(in("a", "1"), over("aa", 209, math.MaxInt32)) },
	} {
		c := b(209)
		c[8] = sheet{bytes: "unused"} // so that the image has as many pages, whatever is deleted
		change(c)
		wantFailure(t, 128, c.image(128), 2, pairs("a"), api.ErrBad)
		wantAsTold(t, 128, c, c.image(128), 2, "", "a", "aa", "b")
	}
	free := b(209)
	image := put(128, free.image(128), 6, sealed(128, 6, 26, 6, 7, make([]byte, 104))) // a page of another kind of chain
	wantFailure(t, 128, image, 2, pairs("a"), api.ErrBad)
}

// A page is come to again: as a node, from itself, from below, and from beside; in a chain, of the same leaf and of another one.
func TestTraversalFailsWhereItWasBefore(t *testing.T) {
	twice := func(b book, want string) {
		t.Helper()
		b.chained(128, text(209), 12, 11, 10)
		wantFailure(t, 128, b.image(128), 2, pairs(want), api.ErrBad)
		wantAsTold(t, 128, b, b.image(128), 2, "", "a", "b", "c", "d", "z")
	}
	twice(book{2: forks(fork("", 2))}, "")
	twice(book{2: forks(fork("", 3), fork("b", 3)), 3: items(in("a", "1"))}, "a")
	twice(book{2: forks(fork("", 3), fork("b", 2)), 3: items(in("a", "1"))}, "a")
	twice(book{2: forks(fork("", 3), fork("b", 4)), 3: items(in("a", "1")), 4: forks(fork("", 2))}, "a")
	twice(book{2: forks(fork("", 3), fork("b", 4)), 3: items(in("a", "1")), 4: forks(fork("", 4))}, "a")
	twice(book{2: forks(fork("", 3), fork("b", 4)), 3: items(in("a", "1")), 4: forks(fork("", 3))}, "a")
	twice(book{2: forks(fork("", 4), fork("c", 5)), 3: items(in("a", "1")), 4: forks(fork("", 3)), 5: forks(fork("", 3))}, "a")
	twice(book{2: forks(fork("", 4), fork("c", 5), fork("d", 4)), 4: items(in("a", "1")), 5: items(in("b", "2"))}, "ab")
	twice(book{2: forks(fork("", 4), fork("c", 5)), 4: items(in("a", "1")), 5: items(in("b", "2"), over("c", 1, 5))}, "ab")
	twice(book{2: items(in("a", "1"), over("c", 1, 2))}, "a")
	chained := book{2: items(in("a", "1"), over("b", 209, 12), over("c", 209, 12)), 10: {}, 11: {}, 12: {}}
	chained.chained(128, text(209), 12, 11, 10)
	wantFailure(t, 128, chained.image(128), 2, list("a", "1", "b", text(209)), api.ErrBad)
	chained[2] = items(over("b", 105, 11), over("c", 209, 12)) // the second is the longer one, so that only its end was visited
	wantFailure(t, 128, chained.image(128), 2, list("b", text(209)[104:]), api.ErrBad)
	chained[2] = items(over("b", 209, 12), over("c", 1, 10))
	wantFailure(t, 128, chained.image(128), 2, list("b", text(209)), api.ErrBad)
	chained[2] = forks(fork("", 3), fork("c", 4))
	chained[3] = items(over("b", 209, 12))
	chained[4] = items(in("c", "3"), over("d", 105, 11))
	wantFailure(t, 128, chained.image(128), 2, list("b", text(209), "c", "3"), api.ErrBad)
	chained[2] = forks(fork("", 3), fork("c", 12)) // a node that was visited in a chain
	wantFailure(t, 128, chained.image(128), 2, list("b", text(209)), api.ErrBad)
}

func TestTraversalFailsWhereItIsTooDeep(t *testing.T) {
	for levels := 1; levels <= 20; levels++ {
		image := spine(levels).image(128)
		if levels <= 16 {
			wantTraversal(t, 128, image, 2, list("k", "v"), run(2, levels))
		} else {
			wantFailure(t, 128, image, 2, nil, api.ErrBad)
			wantFrom(t, 128, image, 2, "z", nil, api.ErrBad)
			wantTraversal(t, 128, image, uint32(levels-14), list("k", "v"), run(uint32(levels-14), 16))
			wantFailure(t, 128, image, uint32(levels-15), nil, api.ErrBad)
		}
	}
	for at := uint32(2); at <= 17; at++ { // leaves beside the spine, the last of them at depth 16 or 17
		for _, levels := range []int{16, 17} {
			b := spine(levels)
			if b[at].forks == nil {
				continue
			}
			b[at] = forks(fork("", 30), fork("b", at+1), fork("x", 31))
			b[30], b[31] = items(in("a", "1")), items(in("z", "2"))
			wantAsTold(t, 128, b, b.image(128), 2, "", "a", "k", "z")
		}
	}
}

// Leaves of many depths, a chain at each.
func TestTraversalOfAllDepths(t *testing.T) {
	b := book{}
	var want []api.Pair
	var pages []uint32
	for i := range uint32(15) {
		key := string(rune('a' + i))
		b[2+i] = forks(fork("", 20+i), fork(key+"z", 3+i))
		b[20+i] = items(over(key, 105, 40+i))
		b.chained(256, text(105), 40+i)
		want = append(want, api.Pair{Key: key, Value: text(105)})
		pages = append(pages, 2+i, 20+i, 40+i)
	}
	b[17] = items(in("z", "last"))
	wantTraversal(t, 256, b.image(256), 2, append(want, api.Pair{Key: "z", Value: "last"}), append(pages, 17))
	b[17] = forks(fork("", 18))
	b[18] = items(in("z", "last"))
	wantFailure(t, 256, b.image(256), 2, want, api.ErrBad)
}

func TestAllAndFromCanBeLeft(t *testing.T) {
	b, pairs, _ := mixed(128)
	delete(b, 13) // it fails at the sixth pair
	image := b.image(128)
	for skipped, key := range []string{"", "c"} {
		for stop := 1; stop <= 6-skipped; stop++ {
			for _, seq := range []iter.Seq2[api.Pair, api.Errno]{cursor.All(128, image, 9), cursor.From(128, image, 9, key)} {
				calls := 0
				seq(func(p api.Pair, e api.Errno) bool {
					calls++
					return calls < stop
				})
				if calls != stop {
					t.Errorf("left at step %d, but yielded %d", stop, calls)
				}
			}
		}
	}
	for p := range cursor.All(128, image, 9) {
		if p != pairs[0] {
			t.Errorf("%q", p)
		}
		break
	}
}

// Each range begins with the root, also while another one is on its way.
func TestAllAndFromCanBeRangedAgain(t *testing.T) {
	b, pairs, _ := mixed(128)
	image := b.image(128)
	for _, seq := range []iter.Seq2[api.Pair, api.Errno]{cursor.All(128, image, 9), cursor.From(128, image, 9, "b")} {
		for range 3 {
			i := 0
			for p, e := range seq {
				if i >= len(pairs) || p != pairs[i] || e != api.OK {
					t.Fatal(i, p, e)
				}
				i++
				wantSteps(t, "a range within a range", seq, told(pairs, api.OK))
			}
			if i != len(pairs) {
				t.Fatal(i)
			}
		}
	}
}

func TestResultsAreIndependent(t *testing.T) {
	b, _, pages := mixed(128)
	image := b.image(128)
	first, _ := cursor.Pages(128, image, 9)
	path, _ := cursor.Path(128, image, 9, "n")
	for _, l := range [][]uint32{first, path} {
		for i := range l {
			l[i] = 77
		}
		_ = append(l, 78)
	}
	wantPages(t, 128, image, 9, pages, api.OK)
	wantPath(t, 128, image, 9, "n", []uint32{9, 11, 5}, api.OK)
}

// P12.2

func TestPathOfEachKey(t *testing.T) {
	for _, size := range mixedSizes {
		b, _, _ := mixed(size)
		image := b.image(size)
		for _, key := range []string{"", "a", "b", "c", "d", "dzzz"} {
			wantPath(t, size, image, 9, key, []uint32{9, 3, 12}, api.OK)
		}
		for _, key := range []string{"e", "e\x00", "f", "lzzz"} {
			wantPath(t, size, image, 9, key, []uint32{9, 3, 4}, api.OK)
		}
		for _, key := range []string{"m", "m\x00", "n", "z", "\xff", strings.Repeat("z", 40), strings.Repeat("z", 41), strings.Repeat("z", 5000)} {
			wantPath(t, size, image, 9, key, []uint32{9, 11, 5}, api.OK)
		}
		wantPath(t, size, image, 3, "z", []uint32{3, 4}, api.OK)
		wantPath(t, size, image, 5, "a", []uint32{5}, api.OK)
		wantPath(t, size, image+"rest", 9, "a", []uint32{9, 3, 12}, api.OK)
	}
}

func TestGetEachKey(t *testing.T) {
	for _, size := range mixedSizes {
		b, pairs, _ := mixed(size)
		image := b.image(size)
		for _, p := range pairs {
			wantGet(t, size, image, 9, p.Key, p.Value, api.OK)
			wantGet(t, size, image, 9, p.Key+"\x00", "", api.ErrNone)
		}
		for _, key := range []string{"", "a", "B", "cc", "f", "l", "mm", "z", "\xff", strings.Repeat("m", 41), strings.Repeat("m", 5000)} {
			wantGet(t, size, image, 9, key, "", api.ErrNone)
		}
		wantGet(t, size, image, 3, "m", "", api.ErrNone) // it is not in this tree
		wantGet(t, size, image, 5, "o", "y", api.OK)
	}
}

func TestGetTheEmptyKey(t *testing.T) {
	b := book{2: forks(fork("", 3), fork("\x00", 4)), 3: items(in("", "empty")), 4: items(in("\x00", ""))}
	wantGet(t, 128, b.image(128), 2, "", "empty", api.OK)
	wantGet(t, 128, b.image(128), 2, "\x00", "", api.OK)
	wantGet(t, 128, b.image(128), 2, "\x00\x00", "", api.ErrNone)
	wantGet(t, 128, b.image(128), 4, "", "", api.ErrNone)
}

func TestDepthIsThatOfTheFirstLeaf(t *testing.T) {
	b, _, _ := mixed(128)
	image := b.image(128)
	for root, depth := range map[uint32]int{9: 3, 3: 2, 11: 2, 12: 1, 4: 1, 5: 1, 0: 0, 6: 2} {
		wantDepth(t, 128, image, root, depth, api.OK)
	}
	uneven := book{2: forks(fork("b", 3), fork("c", 4)), 3: items(in("b", "")), 4: forks(fork("", 5)), 5: items(in("c", ""))}
	wantDepth(t, 128, uneven.image(128), 2, 2, api.OK)
	wantPath(t, 128, uneven.image(128), 2, "c", []uint32{2, 4, 5}, api.OK)
	uneven[2] = forks(fork("b", 4), fork("c", 3))
	wantDepth(t, 128, uneven.image(128), 2, 3, api.OK)
	wantPath(t, 128, uneven.image(128), 2, "c", []uint32{2, 3}, api.OK)
}

func TestNothingInAnEmptyTree(t *testing.T) {
	for _, size := range goodSizes {
		for _, image := range []string{"", three().image(size), text(3 * size)} {
			for _, key := range []string{"", "a", "z"} {
				wantPath(t, size, image, 0, key, nil, api.OK)
				wantGet(t, size, image, 0, key, "", api.ErrNone)
			}
			wantDepth(t, size, image, 0, 0, api.OK)
		}
	}
}

func TestPathOfWrongSizes(t *testing.T) {
	for _, size := range wrongSizes {
		for _, image := range []string{"", three().image(128), three().image(4096)} {
			for _, root := range []uint32{0, 1, 2, 4, 5, math.MaxUint32} {
				for _, key := range []string{"", "a", "z"} {
					wantPath(t, size, image, root, key, nil, api.ErrArg)
					wantGet(t, size, image, root, key, "", api.ErrArg)
				}
				wantDepth(t, size, image, root, 0, api.ErrArg)
			}
		}
	}
}

// wantNoPath asks for no way to a key.
func wantNoPath(t *testing.T, size int, image string, root uint32, key string) {
	t.Helper()
	wantPath(t, size, image, root, key, nil, api.ErrBad)
	wantGet(t, size, image, root, key, "", api.ErrBad)
	if key == "" {
		wantDepth(t, size, image, root, 0, api.ErrBad)
	}
}

func TestNoPathFromWrongRoots(t *testing.T) {
	b := three()
	b[0], b[1] = items(in("a", "1")), forks(fork("", 2))
	image := b.image(128)
	for _, root := range []uint32{1, 5, 6, 1 << 20, 1<<25 + 2, 1<<31 - 1, 1 << 31, 1<<31 + 4, math.MaxUint32} {
		for _, key := range []string{"", "a", "c"} {
			wantNoPath(t, 128, image, root, key)
			wantNoPath(t, 128, "", root, key)
			wantNoPath(t, 128, image[:5*128-1], 4, key)
		}
	}
}

// Only the pages on the path can be wrong for it.
func TestNoPathThroughAWrongPage(t *testing.T) {
	b, _, _ := mixed(128)
	image := b.image(128)
	paths := map[string][]uint32{"": {9, 3, 12}, "c": {9, 3, 12}, "e": {9, 3, 4}, "n": {9, 11, 5}}
	for n := range uint32(19) {
		for _, block := range wrongBlocks(128, n) {
			wrong := put(128, image, n, block)
			for key, path := range paths {
				if slices.Contains(path, n) {
					wantNoPath(t, 128, wrong, 9, key)
				} else {
					wantPath(t, 128, wrong, 9, key, path, api.OK)
				}
			}
		}
	}
}

func TestNoPathThatIsTooDeep(t *testing.T) {
	for levels := 1; levels <= 20; levels++ {
		image := spine(levels).image(128)
		for _, key := range []string{"", "k", "z"} {
			if levels > 16 {
				wantNoPath(t, 128, image, 2, key)
				continue
			}
			wantPath(t, 128, image, 2, key, run(2, levels), api.OK)
			wantDepth(t, 128, image, 2, levels, api.OK)
		}
		if levels <= 16 {
			wantGet(t, 128, image, 2, "k", "v", api.OK)
			wantGet(t, 128, image, 2, "z", "", api.ErrNone)
		}
	}
}

func TestNoPathThatComesBack(t *testing.T) {
	for length := uint32(1); length <= 20; length++ { // back to each page of a spine, itself among them
		for back := range length {
			b := book{2 + length: items(in("z", "v"))}
			for i := range length {
				b[2+i] = forks(fork("", 3+i), fork("k", 2+length))
			}
			b[1+length] = forks(fork("", 2+back), fork("k", 2+length))
			wantNoPath(t, 128, b.image(128), 2, "")
			wantNoPath(t, 128, b.image(128), 2, "j")
			wantPath(t, 128, b.image(128), 2, "k", []uint32{2, 2 + length}, api.OK)
		}
	}
}

// What is wrong elsewhere, a page that is used twice among it, does not matter.
func TestPathOfATreeWhoseTraversalFails(t *testing.T) {
	b := book{
		2: forks(fork("", 3), fork("b", 3), fork("c", 2), fork("d", 99), fork("e", 4)),
		3: items(in("a", "1"), over("b", 1, 6), over("bb", 1, 6), over("bc", 2, 6)),
		4: items(over("e", 5, 3), in("f", "2")),
		6: {bytes: "x"},
	}
	image := b.image(128)
	wantFailure(t, 128, image, 2, list("a", "1", "b", "x"), api.ErrBad)
	wantGet(t, 128, image, 2, "a", "1", api.OK)
	wantGet(t, 128, image, 2, "b", "x", api.OK)
	wantGet(t, 128, image, 2, "bb", "x", api.OK)
	wantGet(t, 128, image, 2, "bc", "", api.ErrBad) // its own chain matters
	wantGet(t, 128, image, 2, "bd", "", api.ErrNone)
	wantGet(t, 128, image, 2, "e", "", api.ErrBad)
	wantGet(t, 128, image, 2, "f", "2", api.OK)
	wantPath(t, 128, image, 2, "b", []uint32{2, 3}, api.OK)
	wantPath(t, 128, image, 2, "e", []uint32{2, 4}, api.OK)
	wantNoPath(t, 128, image, 2, "c")
	wantNoPath(t, 128, image, 2, "d")
}

// A key is sought only where its path leads, although it is elsewhere.
func TestGetOfAKeyThatIsElsewhere(t *testing.T) {
	b := book{2: forks(fork("b", 3), fork("m", 4)), 3: items(in("a", "1"), in("x", "2")), 4: items(in("b", "3"), in("m", "4"))}
	image := b.image(128)
	wantGet(t, 128, image, 2, "a", "1", api.OK) // below all keys of the branch: its first child
	wantGet(t, 128, image, 2, "x", "", api.ErrNone)
	wantGet(t, 128, image, 2, "b", "", api.ErrNone)
	wantGet(t, 128, image, 2, "m", "4", api.OK)
}
