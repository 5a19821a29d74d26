package store_test

import (
	"encoding/binary"
	"hash/crc32"
	"slices"
	"strings"
	"testing"

	"careenage/api"
	"careenage/device"
	"careenage/store"
)

var (
	goodSizes  = []int{128, 192, 256, 1024, 4096}
	wrongSizes = []int{0, 1, 64, 127, 129, 191, 4095, 4097, 4160, -1, -128, 1<<16 + 128}
)

// file is what an image is meant to be: its blocks, laid out a second time by Go's library. Those that it does not have are zero bytes.
type file struct {
	size   int
	blocks map[uint32]string
}

func newFile(size int) file {
	return file{size, map[uint32]string{}}
}

// put puts a block, whose checksum is right, and fills its body.
func (f file) put(kind, count int, n, link uint32, tx uint64, body []byte) {
	b := []byte{byte(kind), 1}
	b = binary.LittleEndian.AppendUint16(b, uint16(count))
	b = binary.LittleEndian.AppendUint32(b, n)
	b = binary.LittleEndian.AppendUint32(b, link)
	b = binary.LittleEndian.AppendUint64(b, tx)
	b = append(b, body...)
	b = append(b, make([]byte, f.size-4-len(b))...)
	sum := crc32.Checksum(b, crc32.MakeTable(crc32.Castagnoli))
	f.blocks[n] = string(binary.LittleEndian.AppendUint32(nil, sum)) + string(b)
}

func (f file) meta(tx uint64, root, list, pages uint32) {
	b := binary.LittleEndian.AppendUint16([]byte("careen01"), uint16(f.size))
	b = binary.LittleEndian.AppendUint32(b, root)
	b = binary.LittleEndian.AppendUint32(b, list)
	b = binary.LittleEndian.AppendUint32(b, pages)
	f.put(api.KindMeta, 0, uint32(tx%2), 0, tx, b)
}

func (f file) catalog(n uint32, tx uint64, l ...api.Bucket) {
	var b []byte
	for _, k := range l {
		b = append(append(b, byte(len(k.Name))), k.Name...)
		b = binary.LittleEndian.AppendUint32(b, k.Root)
		b = binary.LittleEndian.AppendUint32(b, uint32(k.Keys))
	}
	f.put(api.KindCatalog, len(l), n, 0, tx, b)
}

func (f file) branch(n uint32, tx uint64, l ...api.Fork) {
	var b []byte
	for _, k := range l {
		b = append(append(b, byte(len(k.Key))), k.Key...)
		b = binary.LittleEndian.AppendUint32(b, k.Child)
	}
	f.put(api.KindBranch, len(l), n, 0, tx, b)
}

func (f file) leaf(n uint32, tx uint64, l ...api.Item) {
	var b []byte
	for _, i := range l {
		if i.Over {
			b = append(append(b, 1, byte(len(i.Key))), i.Key...)
			b = binary.LittleEndian.AppendUint32(b, uint32(i.Len))
			b = binary.LittleEndian.AppendUint32(b, i.Head)
		} else {
			b = append(append(b, 0, byte(len(i.Key))), i.Key...)
			b = append(append(b, byte(len(i.Value))), i.Value...)
		}
	}
	f.put(api.KindLeaf, len(l), n, 0, tx, b)
}

// chain puts a value on pages, in their order.
func (f file) chain(tx uint64, value string, pages ...uint32) {
	for i, n := range pages {
		part := value[:min(len(value), f.size-24)]
		value = value[len(part):]
		f.put(api.KindOver, len(part), n, append(slices.Clone(pages), 0)[i+1], tx, []byte(part))
	}
}

// list puts a page of numbers.
func (f file) list(n, link uint32, tx uint64, numbers ...uint32) {
	var b []byte
	for _, k := range numbers {
		b = binary.LittleEndian.AppendUint32(b, k)
	}
	f.put(api.KindFree, len(numbers), n, link, tx, b)
}

// image is the image up to the last block.
func (f file) image() string {
	end := uint32(0)
	for n := range f.blocks {
		end = max(end, n+1)
	}
	var b strings.Builder
	for n := range end {
		if f.blocks[n] == "" {
			b.WriteString(strings.Repeat("\x00", f.size))
		}
		b.WriteString(f.blocks[n])
	}
	return b.String()
}

func (f file) clone() file {
	g := newFile(f.size)
	for n, b := range f.blocks {
		g.blocks[n] = b
	}
	return g
}

func in(key, value string) api.Item {
	return api.Item{Key: key, Value: value}
}

func over(key string, length int, head uint32) api.Item {
	return api.Item{Key: key, Over: true, Len: length, Head: head}
}

func fork(key string, child uint32) api.Fork {
	return api.Fork{Key: key, Child: child}
}

// text is a value of a length in which a piece that is at another place than it should be shows.
func text(length int) string {
	b := make([]byte, length)
	for i := range b {
		b[i] = byte(1 + i%251)
	}
	return string(b)
}

// deviceOf is a device with an image.
func deviceOf(t *testing.T, size, capacity int, image string) *device.Device {
	t.Helper()
	d, e := device.New(size, capacity, image)
	if e != api.OK {
		t.Fatal(e)
	}
	return d
}

// opened is the store on a device.
func opened(t *testing.T, d *device.Device) *store.Store {
	t.Helper()
	s, e := store.Open(d)
	if e != api.OK {
		t.Fatal("Open:", e)
	}
	return s
}

// formatted is the store on a formatted device.
func formatted(t *testing.T, size, capacity int) (*device.Device, *store.Store) {
	t.Helper()
	d, e := store.Format(size, capacity)
	if e != api.OK {
		t.Fatal("Format:", e)
	}
	return d, opened(t, d)
}

// want asks for an error.
func want(t *testing.T, what string, e, want api.Errno) {
	t.Helper()
	if e != want {
		t.Fatalf("%s: %d, not %d", what, e, want)
	}
}

// buckets are contents: of each bucket its pairs.
type buckets map[string]map[string]string

func (b buckets) clone() buckets {
	c := buckets{}
	for name, pairs := range b {
		c[name] = map[string]string{}
		for k, v := range pairs {
			c[name][k] = v
		}
	}
	return c
}

// wantContents asks a store for all that it contains.
func wantContents(t *testing.T, s *store.Store, b buckets) {
	t.Helper()
	var names []string
	for name := range b {
		names = append(names, name)
	}
	slices.Sort(names)
	if got := s.Names(); !slices.Equal(got, names) {
		t.Fatalf("names %q, not %q", got, names)
	}
	for name, pairs := range b {
		var keys []string
		for k := range pairs {
			keys = append(keys, k)
		}
		slices.Sort(keys)
		i := 0
		for p := range s.Each(name) {
			if i == len(keys) || p.Key != keys[i] || p.Value != pairs[keys[i]] {
				t.Fatalf("%q: pair %d of %d is %q with %.40q", name, i, len(keys), p.Key, p.Value)
			}
			i++
		}
		if i != len(keys) {
			t.Fatalf("%q: %d pairs of %d", name, i, len(keys))
		}
		for k, v := range pairs {
			if got, e := s.Get(name, k); got != v || e != api.OK {
				t.Fatalf("Get %q %q: %.40q %d", name, k, got, e)
			}
		}
	}
}
