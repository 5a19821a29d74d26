package store_test

import (
	"fmt"
	"maps"
	"slices"
	"strings"
	"testing"

	"careenage/api"
	"careenage/device"
	"careenage/store"
)

// P15.2 and P15.4 where a tree is as deep as one can be

// deep is a store, with what it contains, and a model of it.
type deep struct {
	t *testing.T
	d *device.Device
	s *store.Store
	m *model
	b buckets
}

// newDeep is a store whose bucket a has a tree of depth 16, all branches of which on the way to the smallest key have no room left. With a longer key in place of that one each of them would be divided.
func newDeep(t *testing.T, smallest string) *deep {
	t.Helper()
	d, s := formatted(t, 128, 1<<20)
	p := &deep{t, d, s, formattedModel(128, 1<<20), buckets{"a": {}}}
	p.s.Create("a")
	p.m.create("a")
	p.put(smallest, 16)
	n := 500
	for p.put(key(n), 16) == api.OK {
		n--
	}
	p.put(key(n + 2)[:31]+"x", 16) // so that the second leaf does not fit together with the first one
	if p.m.head["a"].depth() != 16 {
		t.Fatal(p.m.head["a"].depth())
	}
	return p
}

func key(n int) string {
	return fmt.Sprintf("%032d", n*10)
}

func (p *deep) put(key string, length int) api.Errno {
	p.t.Helper()
	e := p.s.Put("a", key, text(length))
	want(p.t, "Put", e, p.m.put("a", key, text(length)))
	if e == api.OK {
		p.b["a"][key] = text(length)
	}
	return e
}

// reopened commits, and opens the store again: its trees can be read.
func (p *deep) reopened() {
	p.t.Helper()
	want(p.t, "Commit", p.s.Commit(), api.OK)
	p.s = opened(p.t, p.d)
	wantContents(p.t, p.s, p.b)
}

func TestDeleteThatWouldMakeTheTreeTooDeep(t *testing.T) {
	for _, smallest := range []string{"", "0", "00"} {
		for _, committed := range []bool{false, true} {
			p := newDeep(t, smallest)
			if committed {
				p.reopened()
			}
			p.m.delete("a", smallest)
			if depth := p.m.head["a"].depth(); depth != 17 {
				t.Fatal("not what is to be asked for:", depth)
			}
			want(t, "Delete", p.s.Delete("a", smallest), api.OK)
			delete(p.b["a"], smallest)
			wantContents(t, p.s, p.b)
			p.reopened()
			want(t, "Put that does not fit", p.s.Put("a", key(400), text(16)), api.ErrFull)
			wantContents(t, p.s, p.b)
			want(t, "Put of the same key", p.s.Put("a", smallest, text(16)), api.OK)
			p.b["a"][smallest] = text(16)
			p.reopened()
		}
	}
}

// twin is the same store as it would be if it was opened just now.
func (p *deep) twin() (*device.Device, *store.Store) {
	p.t.Helper()
	d := deviceOf(p.t, 128, 1<<20, p.d.Image())
	return d, opened(p.t, d)
}

// What happens to such a tree later: all that is left is deleted in some order, and keys are put between. A store that stays open, and one that is opened each time, do the same.
func TestDeleteAllOfTheDeepestTree(t *testing.T) {
	for seed := range 60 {
		c := newChance(4000 + seed)
		p := newDeep(t, strings.Repeat("0", seed%4))
		want(t, "Commit", p.s.Commit(), api.OK)
		d, s := p.twin()
		for round := 0; len(p.b["a"]) > 0 && round < 200; round++ {
			keys := slices.Sorted(maps.Keys(p.b["a"]))
			k := keys[0]
			if seed%3 > 0 {
				k = keys[c.IntN(len(keys))]
			}
			want(t, "Delete", p.s.Delete("a", k), api.OK)
			want(t, "Delete", s.Delete("a", k), api.OK)
			delete(p.b["a"], k)
			if seed%2 == 0 && c.IntN(2) == 0 {
				k, value := key(510 - c.IntN(60))[:32-c.IntN(2)*c.IntN(32)], text(c.IntN(40))
				e := p.s.Put("a", k, value)
				want(t, "Put", s.Put("a", k, value), e)
				if e == api.OK {
					p.b["a"][k] = value
				} else {
					want(t, "Put", e, api.ErrFull)
				}
			}
			wantContents(t, p.s, p.b)
			if round%3 == seed%3 {
				want(t, "Commit", p.s.Commit(), api.OK)
				want(t, "Commit", s.Commit(), api.OK)
				if p.d.Image() != d.Image() {
					t.Fatal("other images")
				}
				d, s = p.twin()
			}
		}
		p.reopened()
	}
}

// A tree of depth 16 that no store wrote: its forks have shorter keys than the smallest ones below them, so that with these all branches on the way to the smallest key would be divided. Beside that way there are branches that fit together with those on it, but their forks have keys that would come out of order.
func foreignDeep() (*model, func(depth int, c byte) string) {
	key := func(depth int, c byte) string {
		return strings.Repeat("a", depth) + strings.Repeat(string([]byte{c}), 32-depth)
	}
	top := &sheet{items: []entry{{key: key(16, 'b')}, {key: key(16, 'c')}}}
	for depth := 15; depth > 0; depth-- {
		above := &sheet{keys: []string{""}, kids: []*sheet{top}}
		for _, c := range []byte("def") {
			k := key(depth, c)
			beside := &sheet{items: []entry{{key: k, value: text(16)}, {key: k[:31] + "z", value: text(16)}}}
			for range 15 - depth {
				beside = &sheet{keys: []string{""}, kids: []*sheet{beside}}
			}
			above.keys, above.kids = append(above.keys, k[:depth+1]), append(above.kids, beside)
		}
		top = above
	}
	m := formattedModel(128, 1<<20)
	m.head["a"], m.changed = top, true
	return m, key
}

func TestDeleteInADeepForeignTree(t *testing.T) {
	m, key := foreignDeep()
	_, e := m.commit()
	want(t, "Commit", e, api.OK)
	d := deviceOf(t, 128, 1<<20, string(m.image))
	b := contents(m.head)
	m.delete("a", key(16, 'b'))
	if depth := m.head["a"].depth(); depth <= 16 {
		t.Fatal("not what is to be asked for:", depth)
	}
	for _, k := range []string{key(16, 'b'), key(16, 'c'), key(15, 'd'), key(14, 'e'), key(1, 'f')} {
		s := opened(t, d)
		want(t, "Delete", s.Delete("a", k), api.OK)
		delete(b["a"], k)
		wantContents(t, s, b)
		want(t, "Commit", s.Commit(), api.OK)
		wantContents(t, opened(t, d), b)
	}
}
