package store_test

import (
	"fmt"
	"slices"
	"strings"
	"testing"

	"careenage/api"
)

// P15.2 and P15.3: the images that are committed, byte by byte

func TestExample(t *testing.T) {
	d, s := formatted(t, 128, 9)
	want(t, "Create", s.Create("a"), api.OK)
	want(t, "Put", s.Put("a", "k", "v"), api.OK)
	want(t, "Commit", s.Commit(), api.OK)
	if s.Tx() != 2 || len(s.Free()) != 0 {
		t.Error(s.Tx(), s.Free())
	}
	f := newFile(128)
	f.meta(1, 0, 0, 2)
	f.leaf(2, 2, in("k", "v"))
	f.catalog(3, 2, api.Bucket{Name: "a", Root: 2, Keys: 1})
	f.meta(2, 3, 0, 4)
	if d.Image() != f.image() {
		t.Error("another image")
	}
}

// The sample after the change of one leaf: its chain, and the other leaf, stay.
func TestCommitOfOneLeaf(t *testing.T) {
	f, _ := sample()
	d := deviceOf(t, 128, 20, f.image())
	s := opened(t, d)
	s.Put("a", "aa", "n")
	want(t, "Commit", s.Commit(), api.OK)
	f.leaf(10, 5, in("a", "v"), in("aa", "n"), over("b", 105, 7))
	f.branch(11, 5, fork("a", 10), fork("d", 6))
	f.catalog(12, 5, api.Bucket{Name: "a", Root: 11, Keys: 4}, api.Bucket{Name: "b", Root: 8, Keys: 1}, api.Bucket{Name: "c"})
	f.list(14, 0, 5, 2, 3, 4, 5, 9)
	f.meta(5, 12, 14, 15)
	if d.Image() != f.image() || !slices.Equal(s.Free(), []uint32{2, 3, 4, 5, 9}) {
		t.Error("another image", s.Free())
	}
}

// A list that takes the only page that would be on it.
func TestCommitOfAListOfNothing(t *testing.T) {
	f := newFile(128)
	f.meta(4, 0, 4, 6)
	f.list(4, 0, 4, 2, 3, 5)
	d := deviceOf(t, 128, 20, f.image())
	s := opened(t, d)
	s.Create("a")
	want(t, "Commit", s.Commit(), api.OK)
	if s.Tx() != 5 || !slices.Equal(s.Free(), []uint32{4, 5}) {
		t.Error(s.Tx(), s.Free())
	}
	f.catalog(2, 5, api.Bucket{Name: "a"})
	f.list(3, 0, 5, 4, 5)
	f.meta(5, 2, 3, 6)
	if d.Image() != f.image() {
		t.Error("another image")
	}
	f = newFile(128)
	f.meta(4, 0, 0, 3) // page 2 is lost
	d = deviceOf(t, 128, 20, f.image())
	s = opened(t, d)
	s.Create("a")
	s.Commit()
	if s.Free() != nil || d.Pages() != 4 {
		t.Error(s.Free(), d.Pages())
	}
}

func TestCommitOfManyFreePages(t *testing.T) {
	for count := range 120 {
		f := newFile(128)
		f.meta(4, 0, 0, 3)
		var numbers []uint32
		for i := range count {
			numbers = append(numbers, uint32(10+2*i))
		}
		var lists []uint32
		for i := 0; i < count; i += 26 {
			lists = append(lists, uint32(300+i))
			next := uint32(300 + i + 26)
			if i+26 >= count {
				next = 0
			}
			f.list(uint32(300+i), next, 4, numbers[i:min(count, i+26)]...)
		}
		list := append(slices.Clone(lists), 0)[0]
		f.meta(4, 0, list, 500)
		d := deviceOf(t, 128, 600, f.image())
		m := formattedModel(128, 600)
		m.image, m.tx, m.pages, m.own, m.free = []byte(d.Image()), 4, 500, lists, numbers
		p := &pair{t, d, opened(t, d), m}
		p.told()
		p.create("a")
		p.commit()
		p.put("a", "k", text(4096))
		p.commit()
		p.drop("a")
		p.commit()
		p.open()
	}
}

func TestLongerScripts(t *testing.T) {
	for seed := range 42 {
		size := []int{128, 128, 192, 256, 512, 1024}[seed%6]
		c := newChance(seed)
		p := newPair(t, size, 1<<20)
		for i := range 1500 {
			more := 60
			if i%500 > 250 {
				more = 30
			}
			p.step(c, 10+seed*3, more)
			if i%100 == 0 {
				p.contents()
			}
		}
		p.commit()
		p.open()
		p.contents()
	}
}

// Scripts in files that are full again and again.
func TestScriptsWithFewPages(t *testing.T) {
	full := 0
	for seed := range 80 {
		c := newChance(1000 + seed)
		p := newPair(t, 128, 2+seed/2)
		for i := range 400 {
			p.step(c, 12, 60)
			if i%9 == 0 && p.commit() == api.ErrFull {
				full++
				p.contents()
				if i%2 == 0 {
					p.abort()
				}
			}
		}
		p.contents()
	}
	if full < 100 {
		t.Error(full)
	}
}

// Keys that are put in some order, and deleted in some order, so that branches are divided and joined on many levels.
func TestScriptsInOrder(t *testing.T) {
	orders := []func(i, n int) int{
		func(i, n int) int { return i },
		func(i, n int) int { return n - 1 - i },
		func(i, n int) int { return i * 37 % n },
		func(i, n int) int { return i/2 + i%2*(n/2) },
	}
	const count = 150 // 37 does not divide it
	for size, length := range map[int]int{128: 12, 192: 32, 256: 32} {
		for _, put := range orders {
			for _, del := range orders {
				p := newPair(t, size, 1<<20)
				p.create("a")
				key := func(n int) string { return fmt.Sprintf("%0*d", length, n) }
				for i := range count {
					p.put("a", key(put(i, count)), text(put(i, count)%40))
				}
				p.commit()
				p.contents()
				for i := range count {
					p.delete("a", key(del(i, count)))
					if i%10 == 0 {
						p.commit()
					}
				}
				p.commit()
				p.contents()
				p.open()
			}
		}
	}
}

// With keys of 32 bytes, from the greatest to the smallest, each one makes the tree deeper.
func TestPutOfTheGreatestDepth(t *testing.T) {
	p := newPair(t, 128, 1<<20)
	p.create("a")
	key := func(n int) string { return fmt.Sprintf("%032d", n) }
	full := 0
	for n := 99; n > 70; n-- {
		p.put("a", key(n), text(16))
		if p.m.put("a", key(n), text(16)) == api.ErrFull {
			full++
		}
	}
	if full == 0 || p.m.head["a"].depth() != 16 {
		t.Fatal(full, p.m.head["a"].depth())
	}
	p.contents()
	p.put("a", key(70), "")        // still too deep
	p.put("a", key(99), text(100)) // not deeper: the key is there
	p.put("a", "9", text(100))     // after all others
	p.commit()
	p.open()
	p.contents()
	for n := 99; n > 70; n-- {
		p.delete("a", key(n))
		p.put("a", key(n-60), text(n))
	}
	p.commit()
	p.open()
	p.contents()
}

// A change in the middle of a tree keeps all pages but those on the path.
func TestCommitKeepsWhatIsNotChanged(t *testing.T) {
	p := newPair(t, 128, 1<<20)
	p.create("a")
	for i := range 300 {
		p.put("a", fmt.Sprintf("%04d", i), text(i%200))
	}
	p.commit()
	ops := p.d.Ops()
	p.put("a", "0150", "")
	p.commit()
	if n := p.d.Ops() - ops; n > 12 { // a path, a catalog, a list, a meta, and two times Sync
		t.Error(n)
	}
}

// wantSameTwice commits a change that leaves everything as it is.
func TestChangesThatLeaveEverything(t *testing.T) {
	p := newPair(t, 128, 99)
	if p.commit(); p.s.Tx() != 1 {
		t.Error("nothing was changed")
	}
	p.create("a")
	p.put("a", "k", text(200))
	p.put("a", "l", "v")
	p.commit()
	for i, change := range []func(){
		func() { p.put("a", "k", text(200)) },
		func() { p.put("a", "l", "v") },
		func() { p.create("b"); p.drop("b") },
		func() { p.put("a", "m", ""); p.delete("a", "m") },
		func() { p.drop("a"); p.create("a"); p.put("a", "k", text(200)); p.put("a", "l", "v") },
	} {
		change()
		p.commit()
		if p.s.Tx() != uint64(3+i) {
			t.Error(i, p.s.Tx())
		}
		p.contents()
	}
	tx := p.s.Tx()
	for _, nothing := range []func(){
		func() {},
		func() { p.put("b", "k", "v") },
		func() { p.put("a", text(33), "v") },
		func() { p.delete("a", "n") },
		func() { p.create("a") },
		func() { p.create("") },
		func() { p.drop("b") },
		func() { p.put("a", "k", "v"); p.abort() },
		func() { p.s.Get("a", "k"); p.contents() },
	} {
		nothing()
		p.commit()
		if p.s.Tx() != tx {
			t.Error(p.s.Tx())
		}
	}
}

// foreign is a tree that no store wrote: nodes are divided by chance, and forks have other keys than the smallest ones.
func foreign(c chance, size, count int, longest int) *sheet {
	keys := map[string]bool{}
	for range count {
		keys[strings.Repeat("k", c.IntN(longest-8))+fmt.Sprint(c.IntN(1000000))] = true
	}
	var sorted []string
	for k := range keys {
		sorted = append(sorted, k)
	}
	slices.Sort(sorted)
	values := newChance(count)
	leaf := &sheet{}
	var level []*sheet
	for _, k := range sorted {
		i := entry{key: k, value: values.value(size)}
		i.over = i.value != "" && (values.IntN(2) == 0 || len(i.value) > 40)
		if leaf.bytes()+i.size() > size-24 || len(leaf.items) > 0 && c.IntN(5) == 0 {
			level = append(level, leaf)
			leaf = &sheet{}
		}
		leaf.items = append(leaf.items, i)
	}
	level = append(level, leaf)
	for len(level) > 1 || c.IntN(3) == 0 {
		level = foreignBranches(c, size, level)
	}
	return level[0]
}

func foreignBranches(c chance, size int, level []*sheet) []*sheet {
	var above []*sheet
	branch, room := &sheet{}, 0
	for i, k := range level {
		key := k.smallest()
		if i > 0 && c.IntN(2) == 0 { // any key does that is above all of the kid before
			before := level[i-1]
			for len(before.kids) > 0 {
				before = before.kids[len(before.kids)-1]
			}
			least := before.items[len(before.items)-1].key + "\x00"
			if least < key {
				key = least
			}
		}
		if room < 5+len(key) || c.IntN(6) == 0 {
			if c.IntN(2) == 0 {
				key = "" // of a first fork it does not matter
			}
			branch, room = &sheet{}, size-24
			above = append(above, branch)
		}
		room -= 5 + len(key)
		branch.kids, branch.keys = append(branch.kids, k), append(branch.keys, key)
	}
	return above
}

// foreignPair is a store on a file with foreign trees.
func foreignPair(t *testing.T, c chance, size int) *pair {
	t.Helper()
	m := formattedModel(size, 1<<20)
	m.head = map[string]*sheet{"a": foreign(c, size, 60, 30), "b": foreign(c, size, 1+c.IntN(20), 40), "lost+found": foreign(c, size, 30, 40)}
	m.changed = true
	if _, e := m.commit(); e != api.OK {
		t.Fatal(e)
	}
	d := deviceOf(t, size, 1<<20, string(m.image))
	p := &pair{t, d, opened(t, d), m}
	p.told()
	p.contents()
	return p
}

func TestChangesOfForeignTrees(t *testing.T) {
	for seed := range 90 {
		c := newChance(2000 + seed)
		p := foreignPair(t, c, []int{128, 192, 256}[seed%3])
		var all []string
		for k := range contents(p.m.head)["a"] {
			all = append(all, k)
		}
		slices.Sort(all)
		for i := range 200 {
			k := all[c.IntN(len(all))]
			switch c.IntN(8) {
			case 0:
				p.put("a", c.key(300), c.value(128))
			case 1:
				p.put("a", k[:len(k)-1], "")
			case 2:
				p.put("a", k, c.value(128))
			case 3:
				p.put("lost+found", c.key(300), c.value(128))
			case 4, 5, 6:
				p.delete("a", k)
			case 7:
				p.commit()
			}
			if i == 100 {
				p.open()
			}
		}
		p.commit()
		p.drop("lost+found")
		p.commit()
		p.open()
		p.contents()
	}
}
