package store_test

import (
	"fmt"
	"math/rand/v2"
	"slices"
	"strings"
	"testing"

	"careenage/api"
	"careenage/store"
)

// P15.2

func TestNamesAreOfBuckets(t *testing.T) {
	_, s := formatted(t, 256, 99)
	if l := s.Names(); len(l) != 0 {
		t.Error(l)
	}
	for _, name := range []string{"b", "a", "aa", "B", "\x00", "\xff", "0123456789abcdef", "lost+foun", "lost+found0"} {
		want(t, name, s.Create(name), api.OK)
		want(t, name, s.Create(name), api.ErrThere)
	}
	sorted := []string{"\x00", "0123456789abcdef", "B", "a", "aa", "b", "lost+foun", "lost+found0", "\xff"}
	l := s.Names()
	if !slices.Equal(l, sorted) {
		t.Errorf("%q", l)
	}
	clear(l[:cap(l)])
	if !slices.Equal(s.Names(), sorted) {
		t.Error("names changed")
	}
	for i, name := range sorted {
		want(t, name, s.Drop(name), api.OK)
		want(t, name, s.Drop(name), api.ErrNone)
		if !slices.Equal(s.Names(), sorted[i+1:]) {
			t.Error(s.Names())
		}
	}
}

func TestCreateOfWrongNames(t *testing.T) {
	_, s := formatted(t, 128, 99)
	for _, name := range []string{"", "lost+found", "0123456789abcdefg", strings.Repeat("n", 300)} {
		want(t, name, s.Create(name), api.ErrArg)
	}
	for i := range 8 {
		want(t, "Create", s.Create(string(rune('a'+i))), api.OK)
	}
	want(t, "Create of a wrong name, when it is full", s.Create("lost+found"), api.ErrArg)
	want(t, "Create of a name that is there, when it is full", s.Create("a"), api.ErrThere)
	want(t, "Create when it is full", s.Create("i"), api.ErrFull)
	if len(s.Names()) != 8 {
		t.Error(s.Names())
	}
}

// The catalog of a page of 128 bytes has 85 for buckets beside lost+found.
func TestCreateUntilTheCatalogIsFull(t *testing.T) {
	for _, size := range goodSizes {
		for length := 1; length <= 16; length++ {
			p := newPair(t, size, 99)
			name := func(i int) string { return fmt.Sprintf("%0*d", length, i) }
			most := (size - 43) / (9 + length)
			for i := range min(most+3, 1000) {
				if length > 2 || i < 10 || length == 2 && i < 100 {
					p.create(name(i))
				}
			}
			if n := len(p.s.Names()); length > 2 && n != min(most, 1000) {
				t.Errorf("size %d, names of %d: %d, not %d", size, length, n, most)
			}
			p.commit()
			p.open()
			p.drop(name(0))
			p.create(name(9))
			p.create("abcdefghijklmnopq"[:length])
			p.create("bcdefghijklmnopqr"[:length])
			p.commit()
			p.open()
		}
	}
}

// withLost is a file with lost+found beside as many buckets as there can be.
func withLost() file {
	f := newFile(128)
	f.meta(4, 2, 0, 5)
	l := []api.Bucket{{Name: "a"}, {Name: "b"}, {Name: "c"}, {Name: "d"}, {Name: "lost+found", Root: 3, Keys: 2}, {Name: "x", Root: 4, Keys: 1}, {Name: "y-789012345"}}
	f.catalog(2, 4, l...)
	f.leaf(3, 4, in("k", "v"), in(strings.Repeat("l", 40), "w"))
	f.leaf(4, 4, in("k", "v"))
	return f
}

func TestLostAndFound(t *testing.T) {
	d := deviceOf(t, 128, 99, withLost().image())
	s := opened(t, d)
	long := strings.Repeat("l", 40)
	if v, e := s.Get("lost+found", long); v != "w" || e != api.OK {
		t.Error(v, e)
	}
	want(t, "Create of lost+found", s.Create("lost+found"), api.ErrArg)
	want(t, "Create when it is full", s.Create("abcdefg"), api.ErrFull)
	want(t, "Create", s.Create("abcdef"), api.OK)
	want(t, "Put of a key of 40 bytes", s.Put("lost+found", long, "x"), api.ErrArg)
	want(t, "Put", s.Put("lost+found", "m", text(99)), api.OK)
	want(t, "Delete of a key of 40 bytes", s.Delete("lost+found", long), api.OK)
	want(t, "Commit", s.Commit(), api.OK)
	s = opened(t, d)
	b := buckets{"a": {}, "abcdef": {}, "b": {}, "c": {}, "d": {}, "lost+found": {"k": "v", "m": text(99)}, "x": {"k": "v"}, "y-789012345": {}}
	wantContents(t, s, b)
	want(t, "Drop", s.Drop("lost+found"), api.OK)
	want(t, "Create", s.Create("lost+found"), api.ErrArg)
	want(t, "Create when it is full", s.Create("z"), api.ErrFull)
	want(t, "Commit", s.Commit(), api.OK)
	delete(b, "lost+found")
	wantContents(t, opened(t, d), b)
}

func TestPutAtTheEdges(t *testing.T) {
	for _, size := range goodSizes {
		p := newPair(t, size, 1<<20)
		p.put("a", "k", "v")
		p.put("a", text(33), "v")
		p.create("a")
		for _, key := range []int{0, 1, 31, 32, 33, 40, 41, 300} {
			for _, value := range []int{0, 1, size / 8, size/8 + 1, 255, 256, size - 24, size - 23, 2 * (size - 24), 4095, 4096, 4097, 9000} {
				p.put("a", text(key), text(value))
				p.put("b", text(key), text(value))
				p.commit()
			}
			p.contents()
		}
		p.open()
		p.contents()
	}
}

func TestErrorsOfWhatIsNotThere(t *testing.T) {
	_, s := formatted(t, 128, 99)
	s.Create("a")
	s.Put("a", "k", "v")
	s.Create("b")
	for _, name := range []string{"", "c", "A", "aa", "lost+found", text(99)} {
		want(t, "Drop", s.Drop(name), api.ErrNone)
		want(t, "Put", s.Put(name, "k", "v"), api.ErrNone)
		want(t, "Put of a long key", s.Put(name, text(33), "v"), api.ErrArg)
		want(t, "Put of a long value", s.Put(name, "k", text(4097)), api.ErrArg)
		want(t, "Delete", s.Delete(name, "k"), api.ErrNone)
		if v, e := s.Get(name, "k"); v != "" || e != api.ErrNone {
			t.Error(v, e)
		}
		for p := range s.Each(name) {
			t.Error(p)
		}
	}
	for _, key := range []string{"", "j", "l", "kk", "K", text(33), text(99)} {
		for _, name := range []string{"a", "b"} {
			want(t, "Delete", s.Delete(name, key), api.ErrNone)
			if v, e := s.Get(name, key); v != "" || e != api.ErrNone {
				t.Error(v, e)
			}
		}
	}
	wantContents(t, s, buckets{"a": {"k": "v"}, "b": {}})
}

func TestEach(t *testing.T) {
	_, s := formatted(t, 128, 999)
	s.Create("a")
	b := buckets{"a": {}}
	for i := range 60 {
		key, value := fmt.Sprint(i), text(i*5)
		s.Put("a", key, value)
		b["a"][key] = value
	}
	each := s.Each("a")
	for most := range 60 {
		i := 0
		for range each {
			if i == most {
				break
			}
			i++
		}
		if i != most {
			t.Error(i, most)
		}
	}
	n := 0
	for p := range each { // what is changed meanwhile is not seen
		for range each {
			n++
		}
		want(t, "Delete", s.Delete("a", p.Key), api.OK)
		if len(p.Key) > 1 {
			want(t, "Commit", s.Commit(), api.OK)
		}
	}
	if n != 3600 {
		t.Error(n)
	}
	wantContents(t, s, buckets{"a": {}})
	s.Drop("a")
	s.Commit()
	for p := range each {
		if b["a"][p.Key] != p.Value {
			t.Error(p)
		}
		delete(b["a"], p.Key)
	}
	if len(b["a"]) != 0 {
		t.Error(b)
	}
}

// Keys in order, for the nodes are divided, and come together, in other ways.
func TestDeleteUntilNothingIsLeft(t *testing.T) {
	for _, size := range goodSizes {
		d, s := formatted(t, size, 1<<20)
		s.Create("a")
		for _, step := range []int{11, 13, 399} {
			for i := range 400 {
				s.Put("a", fmt.Sprint(i*7%400), text(i%40))
			}
			for i := range 400 {
				want(t, "Delete", s.Delete("a", fmt.Sprint(i*step%400)), api.OK)
			}
			wantContents(t, s, buckets{"a": {}})
			s.Commit()
		}
		wantContents(t, opened(t, d), buckets{"a": {}})
		if p := d.Pages(); p > 6 {
			t.Error(p)
		}
	}
}

// P15.3

func TestCommitWithoutEnoughPages(t *testing.T) {
	for _, capacity := range []int{2, 3, 4, 5, 6, 7, 8, 9, 10, 11, 12} {
		p := newPair(t, 128, capacity)
		p.create("a")
		p.commit()
		p.put("a", "k", text(300)) // 3 pages, a leaf, the catalog, and what was one becomes free
		p.commit()
		p.contents()
		p.delete("a", "k")
		p.commit()
		p.contents()
		p.abort()
		p.contents()
		p.open()
		p.contents()
	}
	_, s := formatted(t, 128, 3)
	s.Create("a")
	s.Put("a", "k", "v")
	for range 3 {
		want(t, "Commit", s.Commit(), api.ErrFull)
		wantContents(t, s, buckets{"a": {"k": "v"}})
	}
	s.Delete("a", "k")
	want(t, "Commit of less", s.Commit(), api.OK)
	if s.Tx() != 2 {
		t.Error(s.Tx())
	}
}

func TestCommitOfTheLastTransaction(t *testing.T) {
	f := newFile(128)
	f.meta(1<<62-2, 0, 0, 2)
	f.meta(1<<62-1, 0, 0, 2)
	d := deviceOf(t, 128, 99, f.image())
	s := opened(t, d)
	s.Create("a")
	want(t, "Commit", s.Commit(), api.OK)
	if s.Tx() != 1<<62 {
		t.Error(s.Tx())
	}
	s = opened(t, d)
	image, ops := d.Image(), d.Ops()
	want(t, "Commit of nothing", s.Commit(), api.OK)
	s.Create("b")
	want(t, "Commit", s.Commit(), api.ErrFull)
	want(t, "Commit", s.Commit(), api.ErrFull)
	if d.Image() != image || d.Ops() != ops || s.Tx() != 1<<62 {
		t.Error("written")
	}
	wantContents(t, s, buckets{"a": {}, "b": {}})
	want(t, "Abort", s.Abort(), api.OK)
	wantContents(t, s, buckets{"a": {}})
}

func TestAbort(t *testing.T) {
	_, s := formatted(t, 128, 999)
	want(t, "Abort of nothing", s.Abort(), api.OK)
	s.Create("a")
	s.Put("a", "k", "v")
	s.Create("b")
	s.Put("b", "k", text(300))
	want(t, "Commit", s.Commit(), api.OK)
	before := buckets{"a": {"k": "v"}, "b": {"k": text(300)}}
	for range 3 {
		s.Create("c")
		s.Put("c", "k", "v")
		s.Drop("a")
		s.Put("b", "k", "w")
		s.Put("b", "l", "w")
		wantContents(t, s, buckets{"b": {"k": "w", "l": "w"}, "c": {"k": "v"}})
		want(t, "Abort", s.Abort(), api.OK)
		wantContents(t, s, before)
		if s.Tx() != 2 {
			t.Error(s.Tx())
		}
	}
}

func TestFreeIsACopy(t *testing.T) {
	f, _ := sample()
	s := opened(t, deviceOf(t, 128, 20, f.image()))
	l := s.Free()
	clear(l[:cap(l)])
	if !slices.Equal(s.Free(), []uint32{10, 11, 12}) {
		t.Error(s.Free())
	}
	s.Create("d")
	if !slices.Equal(s.Free(), []uint32{10, 11, 12}) {
		t.Error("of what is not committed", s.Free())
	}
}

// filled makes a commit that leaves something free, and changes that are not committed.
func filled(t *testing.T) *pair {
	t.Helper()
	p := newPair(t, 128, 99)
	p.create("a")
	p.put("a", "k", "v")
	p.put("a", "l", text(300))
	p.commit()
	p.put("a", "l", "w")
	p.commit()
	p.create("b")
	p.put("b", "k", text(200))
	p.delete("a", "k")
	return p
}

// The pages come in ascending order, then Sync, then the meta, then Sync.
func TestCommitThatTheDeviceEnds(t *testing.T) {
	whole := filled(t)
	before := []byte(whole.d.Image())
	writes, _ := whole.m.commit()
	for fuse := range len(writes) + 2 {
		p := filled(t)
		p.d.Fuse(fuse)
		want(t, "Commit", p.s.Commit(), api.ErrState)
		image, durable, pending := slices.Clone(before), slices.Clone(before), 0
		for i, w := range writes[:min(fuse, len(writes)-1)] {
			image, pending = laid(image, 128, w), i+1
		}
		if fuse >= len(writes) { // the first Sync
			durable, pending = slices.Clone(image), 0
		}
		if fuse > len(writes) {
			image, pending = laid(image, 128, writes[len(writes)-1]), 1
		}
		if p.d.Image() != string(image) || p.d.Durable() != string(durable) || p.d.Pending() != pending {
			t.Errorf("fuse %d: %d pending, not %d", fuse, p.d.Pending(), pending)
		}
		wantErrors(t, p.s, api.ErrState)
		p.d.Fuse(-1)
		wantErrors(t, p.s, api.ErrState)
		p.d.Crash(nil)
		wantErrors(t, p.s, api.ErrState)
		copied := *p.s
		wantErrors(t, &copied, api.ErrNil)
	}
	p := filled(t)
	p.d.Fuse(len(writes) + 2)
	p.commit()
	p.contents()
}

// What the device does otherwise does not matter to a store that is open.
func TestDeviceThatOthersChange(t *testing.T) {
	p := filled(t)
	p.abort()
	s := opened(t, p.d)
	for n := range uint32(p.d.Pages()) {
		p.d.Write(n, strings.Repeat("x", 128))
	}
	wantContents(t, s, buckets{"a": {"k": "v", "l": "w"}})
	want(t, "Put", s.Put("a", "m", "v"), api.OK)
	want(t, "Delete", s.Delete("a", "k"), api.OK)
	wantContents(t, s, buckets{"a": {"l": "w", "m": "v"}})
}

// P15.4

// crashed makes a commit that ends after some operations, and crashes.
func crashed(t *testing.T, image string, script func(*store.Store), fuse int, keep []int) *store.Store {
	t.Helper()
	d := deviceOf(t, 128, 400, image)
	s := opened(t, d)
	script(s)
	d.Fuse(fuse)
	s.Commit()
	d.Crash(keep)
	s = opened(t, d)
	r := opened(t, d)
	if s.Tx() != r.Tx() {
		t.Fatal(s.Tx(), r.Tx())
	}
	return s
}

// Whichever of what is pending comes through, the commit is there if its meta is, and else the one before it.
func TestCrashes(t *testing.T) {
	p := filled(t)
	p.abort()
	image, old := p.d.Image(), contents(p.m.head)
	script := func(s *store.Store) {
		s.Create("b")
		s.Put("b", "k", text(200))
		s.Delete("a", "k")
	}
	p = filled(t)
	now := contents(p.m.head)
	writes, _ := p.m.commit()
	for fuse := range len(writes) + 3 {
		pending := min(fuse, len(writes)-1)
		if fuse >= len(writes) {
			pending = 0
		}
		if fuse == len(writes)+1 {
			pending = 1
		}
		for bits := range 1 << pending {
			var keep []int
			for i := range pending {
				if bits>>i&1 == 1 {
					keep = append(keep, i)
				}
			}
			s := crashed(t, image, script, fuse, keep)
			if fuse == len(writes)+2 || fuse == len(writes)+1 && len(keep) == 1 {
				wantContents(t, s, now)
			} else {
				wantContents(t, s, old)
			}
		}
	}
}

// Long scripts of commits, crashes and what goes on after them.
func TestScriptsWithCrashes(t *testing.T) {
	for seed := range 40 {
		c := newChance(3000 + seed)
		d, s := formatted(t, 128, 60+seed*10)
		head, kept := buckets{}, buckets{}
		for range 60 {
			for range c.IntN(30) {
				random(t, c, s, head)
			}
			if c.IntN(2) == 0 {
				d.Fuse(c.IntN(40))
			}
			tx := s.Tx()
			switch e := s.Commit(); e {
			case api.OK:
				kept = head.clone()
			case api.ErrFull:
				wantContents(t, s, head)
			case api.ErrState:
				var keep []int
				for i := range d.Pending() {
					if c.IntN(2) == 0 {
						keep = append(keep, i)
					}
				}
				d.Crash(keep)
				if s = opened(t, d); s.Tx() != tx {
					kept = head.clone() // it was in progress
				}
			default:
				t.Fatal(e)
			}
			d.Fuse(-1)
			if c.IntN(5) == 0 {
				s = opened(t, d)
			}
			s.Abort()
			head = kept.clone()
			wantContents(t, s, head)
		}
	}
}

// random does the same with a store and a map.
func random(t *testing.T, c chance, s *store.Store, b buckets) {
	t.Helper()
	name := []string{"a", "b", "c"}[c.IntN(3)]
	key := c.key(40)
	_, there := b[name]
	_, has := b[name][key]
	switch n := c.IntN(20); {
	case n == 0:
		if e := s.Create(name); (e == api.OK) == there {
			t.Fatal("Create", e)
		} else if !there {
			b[name] = map[string]string{}
		}
	case n == 1 && c.IntN(5) == 0:
		if e := s.Drop(name); (e == api.OK) != there {
			t.Fatal("Drop", e)
		}
		delete(b, name)
	case n < 7:
		if e := s.Delete(name, key); (e == api.OK) != has {
			t.Fatal("Delete", e)
		}
		delete(b[name], key)
	default:
		value := c.value(128)
		if e := s.Put(name, key, value); (e == api.OK) != there {
			t.Fatal("Put", e)
		} else if there {
			b[name][key] = value
		}
	}
}

// Two stores on devices of their own do not share anything.
func TestStoresAreIndependent(t *testing.T) {
	f, b := sample()
	d := deviceOf(t, 128, 99, f.image())
	s, r := opened(t, d), opened(t, deviceOf(t, 128, 99, d.Image()))
	s.Drop("a")
	s.Put("b", "x", "y")
	s.Commit()
	wantContents(t, r, b)
	wantContents(t, s, buckets{"b": {"x": "y"}, "c": {}})
}

// The same calls have the same results, whatever the order of maps.
func TestTheSameScriptTwice(t *testing.T) {
	var images []string
	for range 5 {
		d, s := formatted(t, 128, 1<<20)
		c := chance{rand.New(rand.NewPCG(7, 7))}
		b := buckets{}
		for range 2000 {
			random(t, c, s, b)
			if c.IntN(30) == 0 {
				s.Commit()
			}
		}
		images = append(images, d.Image())
	}
	if len(slices.Compact(images)) != 1 {
		t.Error("other images")
	}
}
