package build_test

import (
	"encoding/binary"
	"math"
	"slices"
	"strconv"
	"strings"

	"careenage/api"
)

var (
	goodSizes  = []int{128, 192, 256, 1024, 4032, 4096}
	wrongSizes = []int{0, 1, 23, 24, 25, 64, 127, 129, 132, 191, 4095, 4097, 4160, 1<<16 + 128, 1<<32 + 128, -1, -24, -128, math.MinInt, math.MinInt + 128, math.MaxInt, math.MaxInt - 63}
)

func in(key, value string) api.Item {
	return api.Item{Key: key, Value: value}
}

func over(key string, length int, head uint32) api.Item {
	return api.Item{Key: key, Over: true, Len: length, Head: head}
}

func fork(key string, child uint32) api.Fork {
	return api.Fork{Key: key, Child: child}
}

func pair(key, value string) api.Pair {
	return api.Pair{Key: key, Value: value}
}

// text is a value of a length in which a piece that is at another place than it should be shows.
func text(length int) string {
	b := make([]byte, length)
	for i := range b {
		b[i] = byte(1 + i%251)
	}
	return string(b)
}

// keyed is a key of a length, the greater the number, the greater the key.
func keyed(number, length int) string {
	digits := strconv.Itoa(100000 + number)
	return digits + strings.Repeat("k", max(0, length-len(digits)))
}

// numbered are pairs whose keys ascend; the lengths of their keys and values go round.
func numbered(count int, keys, values []int) []api.Pair {
	var l []api.Pair
	for i := range count {
		l = append(l, pair(keyed(i, keys[i%len(keys)]), text(values[i%len(values)])))
	}
	return l
}

// record is an element of a node, as its bytes in a body.
type record struct {
	key   string
	bytes string
}

// itemRecord lays out an item a second time, by Go's library.
func itemRecord(i api.Item) record {
	b := []byte{0, byte(len(i.Key))}
	b = append(b, i.Key...)
	if i.Over {
		b[0] = 1
		b = binary.LittleEndian.AppendUint32(b, uint32(i.Len))
		b = binary.LittleEndian.AppendUint32(b, i.Head)
	} else {
		b = append(b, byte(len(i.Value)))
		b = append(b, i.Value...)
	}
	return record{i.Key, string(b)}
}

// forkRecord lays out a fork a second time, by Go's library.
func forkRecord(f api.Fork) record {
	b := append([]byte{byte(len(f.Key))}, f.Key...)
	b = binary.LittleEndian.AppendUint32(b, f.Child)
	return record{f.Key, string(b)}
}

// body is the body of elements without the zero bytes.
func body(l []record) string {
	var b strings.Builder
	for _, r := range l {
		b.WriteString(r.bytes)
	}
	return b.String()
}

// grouped are the parts of elements, a second time: while there are any, as many from the front as have a body that fits.
func grouped(l []record, room int) [][]record {
	var all [][]record
	for len(l) > 0 {
		n, taken := 1, len(l[0].bytes)
		for n < len(l) && taken+len(l[n].bytes) <= room {
			taken += len(l[n].bytes)
			n++
		}
		all = append(all, l[:n])
		l = l[n:]
	}
	return all
}

// lengths are how many elements the parts have.
func lengths[T any](parts [][]T) []int {
	var l []int
	for _, part := range parts {
		l = append(l, len(part))
	}
	return l
}

// page is a page of a tree, laid out a second time.
func page(size, kind, count int, n, link uint32, tx uint64, b string) api.Page {
	return api.Page{Kind: kind, Count: count, Page: n, Link: link, Tx: tx, Body: b + strings.Repeat("\x00", size-24-len(b))}
}

// tree are the pages of the tree of pairs, made a second time as the chapter says, and its levels.
func tree(size int, tx uint64, from uint32, pairs []api.Pair) (pages []api.Page, levels int) {
	var level []record
	next := func() uint32 { return from + uint32(len(pages)) }
	for _, p := range pairs {
		if len(p.Value) <= min(size/8, 255) {
			level = append(level, itemRecord(in(p.Key, p.Value)))
			continue
		}
		level = append(level, itemRecord(over(p.Key, len(p.Value), next())))
		for rest := p.Value; rest != ""; {
			part := rest[:min(size-24, len(rest))]
			rest = rest[len(part):]
			link := next() + 1
			if rest == "" {
				link = 0
			}
			pages = append(pages, page(size, 5, len(part), next(), link, tx, part))
		}
	}
	for kind := 4; levels == 0 && len(level) > 0 || len(level) > 1; kind = 3 {
		var above []record
		for _, node := range grouped(level, size-24) {
			above = append(above, forkRecord(fork(node[0].key, next())))
			pages = append(pages, page(size, kind, len(node), next(), 0, tx, body(node)))
		}
		level = above
		levels++
	}
	return pages, levels
}

// script takes numbers from bytes, and 0 after them.
type script string

// number takes one below n.
func (s *script) number(n int) int {
	if *s == "" {
		return 0
	}
	b := (*s)[0]
	*s = (*s)[1:]
	return int(b) % n
}

// pairs takes pairs that ascend, until the bytes end.
func (s *script) pairs(size int) []api.Pair {
	var l []api.Pair
	edges := []int{0, 1, 5, size/8 - 1, size / 8, size/8 + 1, 255, 256, size - 25, size - 24, size - 23, 2*size - 48, 2*size - 47, 4095, 4096}
	for i := 0; *s != ""; i++ {
		length := []int{6, 7, 12, 23, 39, 40}[s.number(6)]
		value := edges[s.number(5)]
		if s.number(8) == 0 {
			value = edges[s.number(len(edges))]
		}
		l = append(l, pair(keyed(i, length), text(min(4096, value))))
	}
	return l
}

// mixed are n bytes without a short period.
func mixed(n int) string {
	b := make([]byte, n)
	x := uint32(n)
	for i := range b {
		x = x*1664525 + 1013904223
		b[i] = byte(x >> 24)
	}
	return string(b)
}

// spare is a list with spare capacity, all of which is filled with an element.
func spare[T any](l []T, rest T) []T {
	all := append(slices.Clone(l), rest, rest, rest)
	return all[:len(l)]
}
