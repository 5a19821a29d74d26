package cursor_test

import (
	"encoding/binary"
	"fmt"
	"hash/crc32"
	"math"
	"slices"
	"strings"

	"careenage/api"
)

var (
	goodSizes  = []int{128, 192, 256, 1024, 4032, 4096}
	mixedSizes = []int{128, 192, 256, 1024, 2048} // for mixed, whose longest value is one of nearly two pages
	wrongSizes = []int{0, 1, 23, 24, 25, 64, 127, 129, 132, 191, 4095, 4097, 4160, 1<<16 + 128, 1<<32 + 128, -1, -24, -128, math.MinInt, math.MinInt + 128, math.MaxInt, math.MaxInt - 63}
)

// sheet is what a page of an image is meant to be: a branch, a leaf, a part of a value, or none of them.
type sheet struct {
	forks []api.Fork
	items []api.Item
	bytes string
	link  uint32 // after the bytes
}

// book is what an image is meant to be: its pages from 2 on. Those that it does not have are no pages of a tree.
type book map[uint32]sheet

func in(key, value string) api.Item {
	return api.Item{Key: key, Value: value}
}

func over(key string, length int, head uint32) api.Item {
	return api.Item{Key: key, Over: true, Len: length, Head: head}
}

func fork(key string, child uint32) api.Fork {
	return api.Fork{Key: key, Child: child}
}

func forks(l ...api.Fork) sheet {
	return sheet{forks: l}
}

func items(l ...api.Item) sheet {
	return sheet{items: l}
}

// text is a value of a length in which a piece that is at another place than it should be shows.
func text(length int) string {
	b := make([]byte, length)
	for i := range b {
		b[i] = byte(1 + i%251)
	}
	return string(b)
}

// chained puts a value on pages, in their order.
func (b book) chained(size int, value string, pages ...uint32) {
	for i, n := range pages {
		length := min(size-24, len(value))
		b[n] = sheet{bytes: value[:length], link: append(slices.Clone(pages), 0)[i+1]}
		value = value[length:]
	}
}

// body is what stands on a sheet, laid out a second time by Go's library.
func (s sheet) body() (kind, count int, body []byte) {
	for _, f := range s.forks {
		body = append(body, byte(len(f.Key)))
		body = append(body, f.Key...)
		body = binary.LittleEndian.AppendUint32(body, f.Child)
	}
	for _, i := range s.items {
		if i.Over {
			body = append(body, 1, byte(len(i.Key)))
			body = append(body, i.Key...)
			body = binary.LittleEndian.AppendUint32(body, uint32(i.Len))
			body = binary.LittleEndian.AppendUint32(body, i.Head)
		} else {
			body = append(body, 0, byte(len(i.Key)))
			body = append(body, i.Key...)
			body = append(body, byte(len(i.Value)))
			body = append(body, i.Value...)
		}
	}
	switch {
	case s.forks != nil:
		return 3, len(s.forks), body
	case s.items != nil:
		return 4, len(s.items), body
	case s.bytes != "":
		return 5, len(s.bytes), []byte(s.bytes)
	}
	return 0, 0, nil
}

// block is the bytes of a sheet as page n; those of none of them are zero bytes.
func (s sheet) block(size int, n uint32) string {
	kind, count, body := s.body()
	if kind == 0 {
		return strings.Repeat("\x00", size)
	}
	return sealed(size, kind, count, n, s.link, body)
}

// sealed is a page as bytes, whether it is right as such or not.
func sealed(size, kind, count int, n, link uint32, body []byte) string {
	b := []byte{byte(kind), 1}
	b = binary.LittleEndian.AppendUint16(b, uint16(count))
	b = binary.LittleEndian.AppendUint32(b, n)
	b = binary.LittleEndian.AppendUint32(b, link)
	b = binary.LittleEndian.AppendUint64(b, 5)
	b = append(b, body...)
	b = append(b, make([]byte, size-4-len(b))...)
	sum := crc32.Checksum(b, crc32.MakeTable(crc32.Castagnoli))
	return string(binary.LittleEndian.AppendUint32(nil, sum)) + string(b)
}

// image is the bytes that a book is meant to be.
func (b book) image(size int) string {
	end := uint32(2)
	for n := range b {
		end = max(end, n+1)
	}
	var s strings.Builder
	for n := range end {
		s.WriteString(b[n].block(size, n))
	}
	return s.String()
}

// put is an image with other bytes as a page.
func put(size int, image string, n uint32, block string) string {
	at := int(n) * size
	return image[:at] + block + image[at+len(block):]
}

// step is what an iterator yields at once.
type step struct {
	p api.Pair
	e api.Errno
}

// String tells the step, with the beginnings of long texts.
func (s step) String() string {
	return fmt.Sprintf("%.9q: %.9q %d", s.p.Key, s.p.Value, s.e)
}

// told are the steps of some pairs, and of what is wrong after them, if anything is.
func told(pairs []api.Pair, wrong api.Errno) []step {
	var l []step
	for _, p := range pairs {
		l = append(l, step{p, api.OK})
	}
	if wrong != api.OK {
		l = append(l, step{api.Pair{}, wrong})
	}
	return l
}

// from are the steps whose keys are not below a key, and the one with an error.
func from(l []step, key string) []step {
	return slices.DeleteFunc(slices.Clone(l), func(s step) bool { return s.e == api.OK && s.p.Key < key })
}

// task is what a traversal has yet to do: a node, or an item.
type task struct {
	n     uint32
	depth int
	item  *api.Item
}

// traversed goes through a tree a second time, without recursion, on what the pages are meant to be.
func (b book) traversed(size int, root uint32) (steps []step, pages []uint32) {
	var left []task
	if root != 0 {
		left = []task{{n: root, depth: 1}}
	}
	for len(left) > 0 {
		t := left[0]
		left = left[1:]
		if t.item != nil {
			value, chain, right := b.value(size, *t.item)
			if !right || slices.ContainsFunc(chain, func(n uint32) bool { return slices.Contains(pages, n) }) {
				return append(steps, step{e: api.ErrBad}), nil
			}
			steps = append(steps, step{p: api.Pair{Key: t.item.Key, Value: value}})
			pages = append(pages, chain...)
			continue
		}
		s := b[t.n]
		if s.forks == nil && s.items == nil || t.depth == 17 || slices.Contains(pages, t.n) {
			return append(steps, step{e: api.ErrBad}), nil
		}
		pages = append(pages, t.n)
		var below []task
		for _, f := range s.forks {
			below = append(below, task{n: f.Child, depth: t.depth + 1})
		}
		for i := range s.items {
			below = append(below, task{item: &s.items[i]})
		}
		left = append(below, left...)
	}
	return steps, pages
}

// value is that of an item, with the pages of its chain, and whether that is right.
func (b book) value(size int, i api.Item) (value string, chain []uint32, right bool) {
	if !i.Over {
		return i.Value, nil, true
	}
	for n := i.Head; n != 0; n = b[n].link {
		s := b[n]
		if s.bytes == "" || slices.Contains(chain, n) || s.link != 0 && len(s.bytes) != size-24 {
			return "", nil, false
		}
		value += s.bytes
		chain = append(chain, n)
	}
	return value, chain, len(value) == i.Len
}

// descended goes down to the leaf of a key a second time, and tells whether there is a way, and the items of the leaf.
func (b book) descended(root uint32, key string) (path []uint32, items []api.Item, right bool) {
	if root == 0 {
		return nil, nil, true
	}
	for n := root; len(path) < 16 && !slices.Contains(path, n); {
		s := b[n]
		path = append(path, n)
		if s.items != nil {
			return path, s.items, true
		}
		if s.forks == nil {
			break
		}
		last := 0
		for i, f := range s.forks {
			if strings.Compare(f.Key, key) <= 0 {
				last = i
			}
		}
		n = s.forks[last].Child
	}
	return nil, nil, false
}

// got is the value of a key, a second time.
func (b book) got(size int, root uint32, key string) (string, api.Errno) {
	_, items, right := b.descended(root, key)
	if !right {
		return "", api.ErrBad
	}
	for _, i := range items {
		if i.Key == key {
			value, _, right := b.value(size, i)
			if !right {
				return "", api.ErrBad
			}
			return value, api.OK
		}
	}
	return "", api.ErrNone
}
