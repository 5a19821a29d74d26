package store_test

import (
	"math"
	"slices"
	"strconv"
	"strings"
	"testing"

	"careenage/api"
	"careenage/device"
	"careenage/store"
)

// P15.1

func TestFormat(t *testing.T) {
	for _, size := range goodSizes {
		for _, capacity := range []int{2, 3, 400, 1 << 20} {
			d, e := store.Format(size, capacity)
			if e != api.OK {
				t.Fatal(size, capacity, e)
			}
			f := newFile(size)
			f.meta(0, 0, 0, 2)
			f.meta(1, 0, 0, 2)
			if d.Size() != size || d.Cap() != capacity || d.Image() != f.image() || d.Durable() != f.image() || d.Pending() != 0 {
				t.Errorf("Format %d, %d", size, capacity)
			}
			s := opened(t, d)
			wantContents(t, s, buckets{})
			if s.Tx() != 1 || len(s.Free()) != 0 {
				t.Error(s.Tx(), s.Free())
			}
		}
	}
}

func TestFormatReturnsTheErrorOfTheDevice(t *testing.T) {
	for _, size := range append(wrongSizes, goodSizes...) {
		for _, capacity := range []int{math.MinInt, -1, 0, 1, 2, 1 << 20, 1<<20 + 1, math.MaxInt} {
			_, wanted := device.New(size, capacity, "")
			d, e := store.Format(size, capacity)
			if e != wanted || (d == nil) != (wanted != api.OK) {
				t.Errorf("Format %d, %d: %d, not %d", size, capacity, e, wanted)
			}
		}
	}
}

func TestFormattedDevicesAreIndependent(t *testing.T) {
	d, s := formatted(t, 128, 9)
	s.Create("a")
	s.Commit()
	other, r := formatted(t, 128, 9)
	if other.Image() == d.Image() || r.Tx() != 1 {
		t.Error("another device was changed")
	}
}

// a file in which each page is in use: two buckets, one of them with a branch and a chain, and a list of two pages.
func sample() (file, buckets) {
	f := newFile(128)
	f.meta(3, 0, 0, 2)
	f.meta(4, 2, 3, 14)
	f.catalog(2, 4, api.Bucket{Name: "a", Root: 4, Keys: 3}, api.Bucket{Name: "b", Root: 8, Keys: 1}, api.Bucket{Name: "c"})
	f.list(3, 9, 4, 10, 11)
	f.list(9, 0, 3, 12)
	f.branch(4, 4, fork("a", 5), fork("d", 6))
	f.leaf(5, 4, in("a", "v"), over("b", 105, 7))
	f.leaf(6, 4, in("d", "w"))
	f.chain(4, text(105), 7, 13)
	f.leaf(8, 2, in("x", ""))
	b := buckets{"a": {"a": "v", "b": text(105), "d": "w"}, "b": {"x": ""}, "c": {}}
	return f, b
}

func wantOpen(t *testing.T, what string, capacity int, f file, b buckets) *store.Store {
	t.Helper()
	s, e := store.Open(deviceOf(t, f.size, capacity, f.image()))
	if e != api.OK || s == nil {
		t.Errorf("Open, %s: %d", what, e)
		return nil
	}
	wantContents(t, s, b)
	return s
}

func wantNoOpen(t *testing.T, what string, capacity int, f file, want api.Errno) {
	t.Helper()
	if s, e := store.Open(deviceOf(t, f.size, capacity, f.image())); s != nil || e != want {
		t.Errorf("Open, %s: %v %d, not %d", what, s != nil, e, want)
	}
}

func TestOpenOfTheSample(t *testing.T) {
	f, b := sample()
	s := wantOpen(t, "sample", 14, f, b)
	if s.Tx() != 4 || !slices.Equal(s.Free(), []uint32{10, 11, 12}) {
		t.Error(s.Tx(), s.Free())
	}
}

func TestOpenOfNoDevice(t *testing.T) {
	d, _ := formatted(t, 128, 9)
	copied := *d
	for _, d := range []*device.Device{nil, {}, &copied} {
		if s, e := store.Open(d); s != nil || e != api.ErrNil {
			t.Error(s, e)
		}
	}
}

func TestOpenWritesNothing(t *testing.T) {
	f, _ := sample()
	d := deviceOf(t, 128, 20, f.image()+"rest")
	opened(t, d)
	if d.Ops() != 0 || d.Image() != f.image()+"rest" || d.Pending() != 0 {
		t.Error("Open has written")
	}
}

// What is not synced yet is read as well.
func TestOpenReadsWhatIsPending(t *testing.T) {
	f, b := sample()
	d := deviceOf(t, 128, 20, "")
	for n := range uint32(14) {
		block := f.blocks[n]
		if block == "" {
			block = strings.Repeat("\x00", 128)
		}
		d.Write(n, block)
	}
	wantContents(t, opened(t, d), b)
}

func TestOpenTakesTheNewestMeta(t *testing.T) {
	f, b := sample()
	f.blocks[1] = ""
	wantOpen(t, "without the older meta", 20, f, b)
	f, _ = sample()
	f.blocks[0] = ""
	s := wantOpen(t, "without the newer meta", 20, f, buckets{})
	if s.Tx() != 3 {
		t.Error(s.Tx())
	}
	f.blocks[1] = ""
	wantNoOpen(t, "without a meta", 20, f, api.ErrNone)
	wantNoOpen(t, "without anything", 20, newFile(128), api.ErrNone)
	g, _ := sample()
	g.meta(5, 2, 0, 14)
	if s := wantOpen(t, "an older commit with another list", 20, g, b); len(s.Free()) != 0 || s.Tx() != 5 {
		t.Error(s.Free(), s.Tx())
	}
	g.meta(5, 6, 0, 14) // is not a catalog; the older one is not asked
	wantNoOpen(t, "only the older one right", 20, g, api.ErrBad)
}

// Each page of the newest commit matters, and no other one.
func TestOpenOfDamagedPages(t *testing.T) {
	for n := uint32(2); n < 14; n++ {
		f, b := sample()
		f.blocks[n] = ""
		if n >= 10 && n <= 12 {
			f.put(api.KindLeaf, 3, n, 9, 9, []byte("anything"))
			wantOpen(t, "free page "+strconv.Itoa(int(n)), 20, f, b)
			continue
		}
		wantNoOpen(t, "no page "+strconv.Itoa(int(n)), 20, f, api.ErrBad)
		for kind := api.KindMeta; kind <= api.KindFree; kind++ {
			f.put(kind, 1, n, 0, 4, []byte{0xff, 0xff})
			wantNoOpen(t, "wrong page "+strconv.Itoa(int(n)), 20, f, api.ErrBad)
		}
	}
}

// bad files, each with one thing that is wrong.
func TestOpenOfFilesThatAreBad(t *testing.T) {
	for what, change := range map[string]func(file){
		"catalog beyond the image":        func(f file) { f.meta(4, 14, 3, 15) },
		"list beyond the image":           func(f file) { f.meta(4, 2, 14, 15) },
		"catalog that is a leaf":          func(f file) { f.meta(4, 8, 3, 14) },
		"list that is a leaf":             func(f file) { f.meta(4, 2, 8, 14) },
		"list that is the catalog":        func(f file) { f.meta(4, 2, 2, 14) },
		"list in a circle":                func(f file) { f.list(9, 3, 3, 12) },
		"list that goes on in a leaf":     func(f file) { f.list(9, 8, 3, 12) },
		"list not ascending":              func(f file) { f.list(3, 9, 4, 10, 12) },
		"list that descends":              func(f file) { f.list(9, 0, 3, 9) },
		"pages below a chain":             func(f file) { f.meta(4, 2, 3, 13) },
		"pages below a list":              func(f file) { f.meta(4, 2, 3, 9) },
		"pages below a leaf":              func(f file) { f.meta(4, 2, 3, 8) },
		"pages below a number":            func(f file) { f.chain(4, text(105), 7, 12); f.list(9, 0, 3, 13); f.meta(4, 2, 3, 13) },
		"number that is pages":            func(f file) { f.list(9, 0, 3, 12, 14) },
		"number far away":                 func(f file) { f.list(9, 0, 3, 12, math.MaxInt32) },
		"too few keys":                    func(f file) { f.catalog(2, 4, api.Bucket{Name: "a", Root: 4, Keys: 4}) },
		"too many keys":                   func(f file) { f.catalog(2, 4, api.Bucket{Name: "a", Root: 4, Keys: 2}) },
		"bucket beyond the image":         func(f file) { f.catalog(2, 4, api.Bucket{Name: "a", Root: 14, Keys: 3}) },
		"bucket at the catalog":           func(f file) { f.catalog(2, 4, api.Bucket{Name: "a", Root: 2, Keys: 3}) },
		"bucket at a chain":               func(f file) { f.catalog(2, 4, api.Bucket{Name: "a", Root: 7, Keys: 3}) },
		"buckets not ascending":           func(f file) { f.catalog(2, 4, api.Bucket{Name: "b"}, api.Bucket{Name: "a"}) },
		"key that is not found, too low":  func(f file) { f.leaf(6, 4, in("c", "w")) },
		"key that is not found, too high": func(f file) { f.branch(4, 4, fork("a", 5), fork("b", 6)) },
		"fork above its keys":             func(f file) { f.branch(4, 4, fork("a", 5), fork("e", 6)) },
		"the same key twice":              func(f file) { f.leaf(5, 4, in("a", "v"), over("d", 105, 7)) },
		"child twice":                     func(f file) { f.branch(4, 4, fork("a", 5), fork("d", 5)) },
		"child that is the branch":        func(f file) { f.branch(4, 4, fork("a", 5), fork("d", 4)) },
		"first child that is the branch":  func(f file) { f.branch(4, 4, fork("a", 4), fork("d", 6)) },
		"child of another bucket":         func(f file) { f.branch(4, 4, fork("a", 5), fork("d", 8)) },
		"child that is a list":            func(f file) { f.branch(4, 4, fork("a", 5), fork("d", 9)) },
		"chain too long":                  func(f file) { f.leaf(5, 4, in("a", "v"), over("b", 104, 7)) },
		"chain too short":                 func(f file) { f.leaf(5, 4, in("a", "v"), over("b", 106, 7)) },
		"chain of a list":                 func(f file) { f.leaf(5, 4, in("a", "v"), over("b", 8, 3)) },
		"chain from its second page":      func(f file) { f.leaf(6, 4, over("d", 1, 13)) },
		"chain of another item":           func(f file) { f.leaf(6, 4, over("d", 105, 7)) },
		"chain of another bucket":         func(f file) { f.leaf(8, 2, over("x", 105, 7)) },
		"chain in a circle":               func(f file) { f.chain(4, text(208), 7, 13); f.put(5, 104, 13, 7, 4, []byte(text(104))) },
		"leaves at different depths":      func(f file) { f.leaf(14, 4, in("d", "w")); f.branch(6, 4, fork("d", 14)); f.meta(4, 2, 3, 15) },
		"leaves at different depths again": func(f file) {
			f.leaf(14, 4, in("a", "v"), over("b", 105, 7))
			f.branch(5, 4, fork("a", 14))
			f.meta(4, 2, 3, 15)
		},
	} {
		f, _ := sample()
		change(f)
		wantNoOpen(t, what, 20, f, api.ErrBad)
	}
}

func TestOpenOfFreePagesThatAreInUse(t *testing.T) {
	for n := uint32(2); n < 14; n++ {
		f, _ := sample()
		f.list(3, 0, 4, n)
		f.list(9, 0, 3, 12)
		if n == 9 || n >= 10 && n <= 12 {
			continue // is not in use then
		}
		wantNoOpen(t, "free number "+strconv.Itoa(int(n)), 20, f, api.ErrBad)
	}
	f, _ := sample()
	f.list(9, 0, 3, 13)
	wantNoOpen(t, "free number on the second page", 20, f, api.ErrBad)
}

func TestOpenOfBucketsWithOneTree(t *testing.T) {
	f, _ := sample()
	f.catalog(2, 4, api.Bucket{Name: "a", Root: 4, Keys: 3}, api.Bucket{Name: "b", Root: 4, Keys: 3})
	wantNoOpen(t, "two buckets with one tree", 20, f, api.ErrBad)
	f.catalog(2, 4, api.Bucket{Name: "a", Root: 4, Keys: 3}, api.Bucket{Name: "b", Root: 6, Keys: 1})
	wantNoOpen(t, "a bucket within another one", 20, f, api.ErrBad)
}

// Files that are not what a store writes, but right.
func TestOpenOfFilesThatAreRight(t *testing.T) {
	for what, change := range map[string]func(file, buckets){
		"no catalog, but a list": func(f file, b buckets) { f.meta(4, 0, 3, 14); clear(b) },
		"catalog without buckets": func(f file, b buckets) {
			f.catalog(2, 4)
			clear(b)
		},
		"pages in no use":           func(f file, b buckets) { f.list(9, 0, 3); f.meta(4, 2, 3, 20) },
		"list without numbers":      func(f file, b buckets) { f.list(3, 0, 4) },
		"later transactions":        func(f file, b buckets) { f.leaf(8, 99, in("x", "")) },
		"fork below its keys":       func(f file, b buckets) { f.branch(4, 4, fork("a", 5), fork("c", 6)) },
		"first fork below its keys": func(f file, b buckets) { f.branch(4, 4, fork("", 5), fork("d", 6)) },
		"first fork above its keys": func(f file, b buckets) { f.branch(4, 4, fork("c", 5), fork("d", 6)) },
		"branches with one fork":    func(f file, b buckets) { f.branch(14, 4, fork("k", 8)); f.catalogOf(14); f.meta(4, 2, 3, 15) },
		"long values in place":      func(f file, b buckets) { f.leaf(8, 4, in("x", text(90))); b["b"]["x"] = text(90) },
		"short values in chains": func(f file, b buckets) {
			f.leaf(8, 4, over("x", 1, 14))
			f.chain(4, "v", 14)
			f.meta(4, 2, 3, 15)
			b["b"]["x"] = "v"
		},
		"longer keys than can be put": func(f file, b buckets) {
			f.leaf(8, 4, in(strings.Repeat("x", 40), ""))
			b["b"] = map[string]string{strings.Repeat("x", 40): ""}
		},
	} {
		f, b := sample()
		change(f, b)
		wantOpen(t, what, 20, f, b)
	}
}

// catalogOf puts the sample's catalog with another root of b.
func (f file) catalogOf(root uint32) {
	f.catalog(2, 4, api.Bucket{Name: "a", Root: 4, Keys: 3}, api.Bucket{Name: "b", Root: root, Keys: 1}, api.Bucket{Name: "c"})
}

func TestOpenOfTheGreatestDepth(t *testing.T) {
	for depth := 14; depth <= 19; depth++ {
		f := newFile(128)
		f.meta(1, 2, 0, 100)
		f.catalog(2, 1, api.Bucket{Name: "a", Root: 3, Keys: 1})
		for n := range uint32(depth - 1) {
			f.branch(3+n, 1, fork("", 4+n))
		}
		f.leaf(2+uint32(depth), 1, in("k", "v"))
		if depth <= 16 {
			wantOpen(t, "depth "+strconv.Itoa(depth), 100, f, buckets{"a": {"k": "v"}})
		} else {
			wantNoOpen(t, "depth "+strconv.Itoa(depth), 100, f, api.ErrBad)
		}
	}
}

func TestOpenOfMorePagesThanTheCapacity(t *testing.T) {
	f, b := sample()
	f.list(9, 0, 3, 12, 14, 19) // pages 14 and 19 are not there yet
	f.meta(4, 2, 3, 20)
	wantOpen(t, "20 pages", 20, f, b)
	wantOpen(t, "20 pages", 1<<20, f, b)
	for capacity := 14; capacity < 20; capacity++ {
		wantNoOpen(t, "20 pages", capacity, f, api.ErrFull)
	}
	f.meta(4, 2, 3, math.MaxInt32)
	wantNoOpen(t, "many pages", 1<<20, f, api.ErrFull)
	f.blocks[8] = ""
	wantNoOpen(t, "many pages, and a bad one", 1<<20, f, api.ErrBad)
	f.blocks[0], f.blocks[1] = "", ""
	wantNoOpen(t, "no meta", 1<<20, f, api.ErrNone)
}

// Whatever byte is changed: what is opened is this commit, or the one before it, or nothing.
func TestOpenOfEachDamagedByte(t *testing.T) {
	f, b := sample()
	image := f.image()
	for at := range image {
		s, e := store.Open(deviceOf(t, 128, 14, image[:at]+string([]byte{image[at] ^ 0x20})+image[at+1:]))
		switch page := at / 128; {
		case page == 0:
			if e != api.OK || s.Tx() != 3 {
				t.Fatal(at, e)
			}
		case page == 1 || page >= 10 && page <= 12:
			if e != api.OK {
				t.Fatal(at, e)
			}
			wantContents(t, s, b)
		case s != nil || e != api.ErrBad:
			t.Fatal(at, e)
		}
	}
}

func TestOpenOfEachLength(t *testing.T) {
	f, b := sample()
	image := f.image()
	for length := range len(image) + 1 {
		s, e := store.Open(deviceOf(t, 128, 14, image[:length]))
		switch {
		case length < 128 && e == api.ErrNone && s == nil:
		case length >= 128 && length < len(image) && e == api.ErrBad && s == nil:
		case length == len(image) && e == api.OK:
			wantContents(t, s, b)
		default:
			t.Error(length, e)
		}
	}
}

func invalid(t *testing.T) []*store.Store {
	_, s := formatted(t, 128, 9)
	s.Create("a")
	s.Put("a", "k", "v")
	copied := *s
	return []*store.Store{nil, {}, &copied}
}

func TestInvalidStores(t *testing.T) {
	for _, s := range invalid(t) {
		wantErrors(t, s, api.ErrNil)
	}
}

// wantErrors asks all methods for an error, or for nothing.
func wantErrors(t *testing.T, s *store.Store, e api.Errno) {
	t.Helper()
	want(t, "Create", s.Create("a"), e)
	want(t, "Create of no name", s.Create(""), e)
	want(t, "Drop", s.Drop("a"), e)
	want(t, "Put", s.Put("a", "k", "v"), e)
	want(t, "Put of a long key", s.Put("a", text(33), "v"), e)
	want(t, "Delete", s.Delete("a", "k"), e)
	if v, f := s.Get("a", "k"); v != "" || f != e {
		t.Error("Get:", v, f)
	}
	for p := range s.Each("a") {
		t.Error(p)
	}
	if l := s.Names(); len(l) != 0 {
		t.Error(l)
	}
	want(t, "Commit", s.Commit(), e)
	want(t, "Abort", s.Abort(), e)
	if s.Tx() != 0 || len(s.Free()) != 0 {
		t.Error(s.Tx(), s.Free())
	}
}
