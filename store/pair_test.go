package store_test

import (
	"fmt"
	"math/rand/v2"
	"slices"
	"strings"
	"testing"

	"careenage/api"
	"careenage/device"
	"careenage/store"
)

// pair is a store and its model, to which the same is done.
type pair struct {
	t *testing.T
	d *device.Device
	s *store.Store
	m *model
}

func newPair(t *testing.T, size, capacity int) *pair {
	t.Helper()
	d, s := formatted(t, size, capacity)
	return &pair{t, d, s, formattedModel(size, capacity)}
}

func (p *pair) same(what string, got, want api.Errno) {
	p.t.Helper()
	if got != want {
		p.t.Fatalf("%s: %d, not %d", what, got, want)
	}
}

func (p *pair) create(name string) {
	p.t.Helper()
	p.same(fmt.Sprintf("Create %q", name), p.s.Create(name), p.m.create(name))
}

func (p *pair) drop(name string) {
	p.t.Helper()
	p.same(fmt.Sprintf("Drop %q", name), p.s.Drop(name), p.m.drop(name))
}

func (p *pair) put(name, key, value string) {
	p.t.Helper()
	p.same(fmt.Sprintf("Put %q %q, %d bytes", name, key, len(value)), p.s.Put(name, key, value), p.m.put(name, key, value))
}

func (p *pair) delete(name, key string) {
	p.t.Helper()
	p.same(fmt.Sprintf("Delete %q %q", name, key), p.s.Delete(name, key), p.m.delete(name, key))
}

func (p *pair) abort() {
	p.t.Helper()
	p.same("Abort", p.s.Abort(), api.OK)
	p.m.abort()
}

// commit asks for each byte that is written, and for the order in which it is.
func (p *pair) commit() api.Errno {
	p.t.Helper()
	image, ops, tx := []byte(p.d.Image()), p.d.Ops(), p.s.Tx()
	writes, e := p.m.commit()
	p.same("Commit", p.s.Commit(), e)
	if len(writes) == 0 {
		if p.d.Image() != string(image) || p.d.Ops() != ops || p.s.Tx() != tx {
			p.t.Fatal("a commit of nothing, or without enough pages, has written")
		}
		return e
	}
	if got := p.d.Image(); got != string(p.m.image) {
		p.t.Fatalf("the image is another one: %d bytes, not %d", len(got), len(p.m.image))
	}
	if p.d.Durable() != string(p.m.image) || p.d.Pending() != 0 || p.d.Ops() != ops+len(writes)+2 {
		p.t.Fatalf("%d pending, %d operations for %d writes", p.d.Pending(), p.d.Ops()-ops, len(writes))
	}
	p.told()
	return e
}

// told asks for what is told of the last commit.
func (p *pair) told() {
	p.t.Helper()
	if p.s.Tx() != p.m.tx || !slices.Equal(p.s.Free(), p.m.free) {
		p.t.Fatalf("transaction %d, not %d; free %d, not %d", p.s.Tx(), p.m.tx, p.s.Free(), p.m.free)
	}
}

// whole asks that each page is in use, on the list, or part of it, and none of them twice.
func (p *pair) whole() {
	p.t.Helper()
	all := slices.Concat(p.s.Free(), p.m.own)
	for _, top := range p.m.kept {
		all = append(all, top.used()...)
	}
	slices.Sort(all)
	for i, n := range all {
		if int(n) != i+2 {
			p.t.Fatal("pages are in no use, or in two:", all)
		}
	}
	if len(all)+2 != p.d.Pages() {
		p.t.Fatalf("%d pages, not %d", p.d.Pages(), len(all)+2)
	}
}

// open opens the store again.
func (p *pair) open() {
	p.t.Helper()
	p.s = opened(p.t, p.d)
	p.m.abort()
	p.told()
}

func (p *pair) contents() {
	p.t.Helper()
	wantContents(p.t, p.s, contents(p.m.head))
}

// chance is where scripts come from: the same numbers in each run.
type chance struct{ *rand.Rand }

func newChance(seed int) chance {
	return chance{rand.New(rand.NewPCG(uint64(seed), 15))}
}

// key is one of count keys; some are long, some short, and one is empty.
func (c chance) key(count int) string {
	n := c.IntN(count)
	if n == 0 {
		return ""
	}
	key := fmt.Sprint(n * 7919 % 1000)
	switch n % 4 {
	case 0:
		key += strings.Repeat("k", 32-len(key))
	case 1:
		key += strings.Repeat("k", n%20)
	}
	return key
}

func (c chance) value(size int) string {
	switch c.IntN(9) {
	case 0:
		return ""
	case 1:
		return text(size / 8)
	case 2:
		return text(size/8 + 1)
	case 3:
		return text(size - 24)
	case 4:
		return text(size - 23)
	case 5:
		return text(c.IntN(min(4096, 3*size)))
	}
	return text(c.IntN(size / 8))
}

// step does one thing; most of it is what makes trees grow or shrink.
func (p *pair) step(c chance, keys, more int) {
	p.t.Helper()
	name := []string{"a", "b", "lower", "z0123456789abcde"}[c.IntN(4)]
	switch n := c.IntN(100); {
	case n < 3:
		p.create(name)
	case n < 4:
		p.drop(name)
	case n < 5:
		p.abort()
	case n < 8:
		p.commit()
	case n < 9:
		p.commit()
		p.whole()
		p.open()
	case n < 9+more:
		p.put(name, c.key(keys), c.value(p.m.size))
	default:
		p.delete(name, c.key(keys))
	}
}
