package cursor_test

import (
	"slices"
	"strconv"
	"strings"
	"testing"

	"careenage/api"
	"careenage/cursor"
)

// P12.1, P12.2: all small images, and others made of bytes, as what they are meant to be

// sheets are what a page of a small image can be meant to be, with references to the pages 2 to 5, of which 5 is none.
func sheets() []sheet {
	all := []sheet{
		{},
		items(in("a", "1")),
		items(in("c", "2"), in("x", "3")),
		{bytes: "w"},
		{bytes: text(104)},
	}
	for n := uint32(2); n <= 5; n++ {
		all = append(all,
			forks(fork("m", n)),
			items(over("b", 1, n)),
			items(over("b", 105, n), in("x", "4")),
			sheet{bytes: text(104), link: n})
		for m := uint32(2); m <= 4; m++ {
			all = append(all, forks(fork("", m), fork("c", n)), items(over("a", 1, m), over("c", 105, n)))
		}
	}
	return all
}

func TestAllSmallImages(t *testing.T) {
	all := sheets()
	blocks := map[uint32][]string{}
	for n := uint32(2); n <= 4; n++ {
		for _, s := range all {
			blocks[n] = append(blocks[n], s.block(128, n))
		}
	}
	for i, first := range all {
		t.Run(strconv.Itoa(i), func(t *testing.T) {
			t.Parallel()
			for k, second := range all {
				for l, third := range all {
					b := book{2: first, 3: second, 4: third}
					image := strings.Repeat("\x00", 256) + blocks[2][i] + blocks[3][k] + blocks[4][l]
					wantAsTold(t, 128, b, image, 2, "b", "c")
				}
			}
		})
	}
}

// script takes numbers from bytes, and 0 after them.
type script string

// number takes one below n.
func (s *script) number(n int) int {
	if *s == "" {
		return 0
	}
	b := (*s)[0]
	*s = (*s)[1:]
	return int(b) % n
}

// page takes one that most often comes after page n, so that there are trees as well.
func (s *script) page(n uint32) uint32 {
	if s.number(16) == 0 {
		return uint32(2 + s.number(30))
	}
	return n + 1 + uint32(s.number(5))
}

// keys takes that many keys, which ascend.
func (s *script) keys(count int) []string {
	var l []string
	c := byte('a')
	for i := range count {
		c += byte(1 + s.number(4))
		l = append(l, string([]byte{c}))
		if i == 0 && s.number(2) == 0 {
			l[0] = ""
		}
	}
	return l
}

// sheet takes what page n is meant to be.
func (s *script) sheet(n uint32) sheet {
	switch kind := s.number(16); {
	case kind == 0:
		return sheet{}
	case kind < 5:
		var l []api.Fork
		for _, key := range s.keys(1 + s.number(3)) {
			l = append(l, fork(key, s.page(n)))
		}
		return forks(l...)
	case kind < 11:
		var l []api.Item
		for _, key := range s.keys(1 + s.number(3)) {
			if s.number(3) == 0 {
				l = append(l, over(key, []int{1, 104, 105, 9, 208, 209}[s.number(6)], s.page(n)))
			} else {
				l = append(l, in(key, text(s.number(20))))
			}
		}
		return items(l...)
	case kind < 13:
		return sheet{bytes: text(104), link: s.page(n)}
	case kind < 14:
		return sheet{bytes: text(104)}
	}
	return sheet{bytes: text([]int{1, 9}[s.number(2)])}
}

// follow asks for all trees of the image that a script makes.
func follow(t *testing.T, s script) {
	t.Helper()
	b := book{}
	for n := uint32(2); n < 28; n++ {
		b[n] = s.sheet(n)
	}
	image := b.image(128)
	for root := uint32(2); root < 29; root++ {
		wantAsTold(t, 128, b, image, root, "", "a", "c", "d", "f", "l")
	}
}

// bytes are n bytes without a short period.
func bytes(n int) string {
	b := make([]byte, n)
	x := uint32(n)
	for i := range b {
		x = x*1664525 + 1013904223
		b[i] = byte(x >> 24)
	}
	return string(b)
}

func TestImagesOfScripts(t *testing.T) {
	for n := range 500 {
		follow(t, script(bytes(100+n)))
	}
}

func FuzzTrees(f *testing.F) {
	for n := range 20 {
		f.Add(bytes(40 * n))
	}
	f.Fuzz(func(t *testing.T, s string) {
		follow(t, script(s))
	})
}

// Any bytes are an image of any size, also where they are no pages.
func FuzzAnyBytes(f *testing.F) {
	f.Add(128, three().image(128), uint32(4), "b")
	f.Add(4096, "", uint32(0), "")
	f.Add(-128, text(1000), uint32(2), "k")
	f.Fuzz(func(t *testing.T, size int, image string, root uint32, key string) {
		good := size >= 128 && size <= 4096 && size%64 == 0
		pages, e := cursor.Pages(size, image, root)
		last := api.OK
		for p, e := range cursor.All(size, image, root) {
			if last != api.OK || e != api.OK && p != (api.Pair{}) {
				t.Errorf("%q %d after %d", p, e, last)
			}
			last = e
		}
		if last != e || (e == api.ErrArg) == good || e != api.OK && len(pages) > 0 {
			t.Errorf("All ends with %d, but Pages is %d %d", last, pages, e)
		}
		path, e := cursor.Path(size, image, root, key)
		if (e == api.ErrArg) == good || e != api.OK && len(path) > 0 || len(path) > 16 {
			t.Errorf("Path %d %d", path, e)
		}
		if s, got := cursor.Get(size, image, root, key); got != api.OK && s != "" || e != api.OK && got != e {
			t.Errorf("Get %q %d, Path %d", s, got, e)
		}
	})
}

// P12.3

// cut are the ends of the parts of elements with sizes: each takes as many as fit.
func cut(sizes []int, room int) []int {
	var ends []int
	sum := 0
	for i, n := range sizes {
		if sum+n > room {
			ends = append(ends, i)
			sum = 0
		}
		sum += n
	}
	return append(ends, len(sizes))
}

// built is the tree of pairs, made a second time as its chapter says: its book, from a page on, its root, and its levels.
func built(size int, from uint32, pairs []api.Pair) (b book, root uint32, levels int) {
	b = book{}
	n := from
	var l []api.Item
	var sizes []int
	for _, p := range pairs {
		i := in(p.Key, p.Value)
		taken := 3 + len(p.Key) + len(p.Value)
		if len(p.Value) > min(size/8, 255) {
			i = over(p.Key, len(p.Value), n)
			taken = 10 + len(p.Key)
			chain := run(n, (len(p.Value)+size-25)/(size-24))
			b.chained(size, p.Value, chain...)
			n += uint32(len(chain))
		}
		l = append(l, i)
		sizes = append(sizes, taken)
	}
	if len(pairs) == 0 {
		return b, 0, 0
	}
	var level []api.Fork
	at := 0
	for _, end := range cut(sizes, size-24) {
		b[n] = items(l[at:end]...)
		level = append(level, fork(l[at].Key, n))
		at = end
		n++
	}
	for levels = 1; len(level) > 1; levels++ {
		sizes = nil
		for _, f := range level {
			sizes = append(sizes, 5+len(f.Key))
		}
		var above []api.Fork
		at = 0
		for _, end := range cut(sizes, size-24) {
			b[n] = forks(level[at:end]...)
			above = append(above, fork(level[at].Key, n))
			at = end
			n++
		}
		level = above
	}
	return b, level[0].Child, levels
}

// numbered are pairs with keys of a length, at least 6, that ascend, and values whose lengths go round.
func numbered(count, length int, values ...int) []api.Pair {
	var l []api.Pair
	for i := range count {
		number := strconv.Itoa(100000 + i)
		l = append(l, api.Pair{Key: number + strings.Repeat("k", length-6), Value: text(values[i%len(values)])})
	}
	return l
}

// wantBuilt asks for the tree of pairs by each of the functions.
func wantBuilt(t *testing.T, size int, from uint32, pairs []api.Pair) int {
	t.Helper()
	b, root, levels := built(size, from, pairs)
	image := b.image(size)
	wantAll(t, size, image, root, pairs, api.OK)
	pages, e := cursor.Pages(size, image, root)
	if e != api.OK || len(pages) != len(b) || root != 0 && pages[0] != root {
		t.Fatalf("pages %d %d, not %d, the first one %d", pages, e, len(b), root)
	}
	slices.Sort(pages)
	if !slices.Equal(pages, run(from, len(b))) {
		t.Fatalf("pages %d, not %d from %d on", pages, len(b), from)
	}
	wantDepth(t, size, image, root, levels, api.OK)
	for i, p := range pairs {
		wantGet(t, size, image, root, p.Key, p.Value, api.OK)
		wantGet(t, size, image, root, p.Key+"\x00", "", api.ErrNone)
		if path, e := cursor.Path(size, image, root, p.Key); len(path) != levels || e != api.OK {
			t.Errorf("path %d %d, not of %d pages", path, e, levels)
		}
		if i%(1+len(pairs)/9) == 0 {
			wantFrom(t, size, image, root, p.Key, pairs[i:], api.OK)
			wantFrom(t, size, image, root, p.Key+"\x00", pairs[i+1:], api.OK)
		}
		if t.Failed() {
			t.FailNow()
		}
	}
	return levels
}

func TestTreesThatAreBuiltAreRead(t *testing.T) {
	for _, size := range goodSizes {
		for _, count := range []int{0, 1, 2, 3, 5, 30, 300} {
			wantBuilt(t, size, 2, numbered(count, 6, 0))
			wantBuilt(t, size, 77, numbered(count, 6, 1, 16, 17, 5))
			wantBuilt(t, size, 3, numbered(count, 40, 0, 20, 300))
			wantBuilt(t, size, 9, numbered(count, 12, size-25, size-24, size-23, min(4096, 2*(size-24)), 4096, 0, size/8, size/8+1, 255, 256)[:min(count, 40)])
		}
	}
}

// Of each count, so that pages are just full, and just not.
func TestTreesThatAreBuiltOfEachCount(t *testing.T) {
	for count := range 120 {
		wantBuilt(t, 128, 2, numbered(count, 6, 0))
		wantBuilt(t, 128, 2, numbered(count, 40, count%30))
	}
}

// The greatest depth there is: with keys this long a page holds two.
func TestTreesThatAreBuiltOfTheGreatestDepth(t *testing.T) {
	var pairs []api.Pair
	for i := range 1 << 16 {
		pairs = append(pairs, api.Pair{Key: strings.Repeat("k", 34) + strconv.Itoa(100000+i), Value: strconv.Itoa(i)})
	}
	b, root, levels := built(128, 2, pairs)
	if levels != 16 {
		t.Fatal(levels)
	}
	image := b.image(128)
	wantAll(t, 128, image, root, pairs, api.OK)
	wantDepth(t, 128, image, root, 16, api.OK)
	for i := 0; i < len(pairs); i += 15 {
		wantGet(t, 128, image, root, pairs[i].Key, pairs[i].Value, api.OK)
	}
	pairs = append(pairs, api.Pair{Key: strings.Repeat("k", 34) + "999999", Value: "one more"})
	b, root, levels = built(128, 2, pairs)
	if levels != 17 {
		t.Fatal(levels)
	}
	wantFailure(t, 128, b.image(128), root, nil, api.ErrBad)
	wantNoPath(t, 128, b.image(128), root, "k")
}
