package store

import (
	"careenage/api"
	"careenage/catalog"
	"careenage/chain"
	"careenage/cursor"
	"careenage/device"
	"careenage/frame"
	"careenage/leaf"
	"careenage/meta"
)

// commit is what is kept of a commit.
type commit struct {
	view
	meta  api.Meta
	own   []uint32         // the pages of the catalog and of the list
	free  []uint32         // the numbers of the list
	trees map[string]*tree // of all buckets; nothing in them is new
}

// claims are the pages that something was found to be on, each below a bound.
type claims struct {
	below uint32
	pages map[uint32]struct{}
}

// Format returns a device with a file that has no buckets.
func Format(size, capacity int) (*device.Device, api.Errno) {
	d, e := device.New(size, capacity, "")
	if e != api.OK {
		return nil, e
	}
	put := func(tx uint64) func() api.Errno {
		return func() api.Errno { return writeMeta(d, api.Meta{Tx: tx, Size: size, Pages: firstPage}) }
	}
	if e := inTurn(put(0), put(1), d.Sync); e != api.OK {
		return nil, e
	}
	return d, api.OK
}

// Open returns the store that is on a device.
func Open(d *device.Device) (*Store, api.Errno) {
	if d.Size() == 0 { // only a device that is not one has no page size
		return nil, api.ErrNil
	}
	v := view{d.Size(), d.Image()}
	m, e := meta.Newest(v.size, v.image)
	if e != api.OK {
		return nil, e
	}
	c, right := v.commit(m)
	if !right {
		return nil, api.ErrBad
	}
	if int64(m.Pages) > int64(d.Cap()) {
		return nil, api.ErrFull
	}
	s := &Store{device: d, last: c}
	s.self = s
	s.restore()
	return s, api.OK
}

// commit returns the commit of a meta, and whether it is right.
func (v view) commit(m api.Meta) (commit, bool) {
	buckets, own, right := v.buckets(m.Root)
	numbers, lists, e := chain.List(v.size, v.image, m.Free)
	c := commit{view: v, meta: m, own: append(own, lists...), free: numbers, trees: map[string]*tree{}}
	used := claims{below: m.Pages, pages: map[uint32]struct{}{}}
	if !right || e != api.OK || !used.add(c.own...) || !used.add(c.free...) {
		return commit{}, false
	}
	for _, b := range buckets {
		t := v.tree(b)
		pages, e := cursor.Pages(v.size, v.image, b.Root)
		// Only a tree that is traversed is sure to have an end downwards.
		if e != api.OK || !used.add(pages...) || !t.sound() {
			return commit{}, false
		}
		t.exact = t.follows(&t.top)
		t.top.to = nil // what was read here is kept no longer
		c.trees[b.Name] = t
	}
	return c, true
}

// buckets returns the buckets of the catalog that is page n, the page of the catalog, and whether it can be read.
func (v view) buckets(n uint32) (l []api.Bucket, own []uint32, right bool) {
	if n == 0 {
		return nil, nil, true
	}
	p, e := frame.Read(v.size, v.image, n)
	if e != api.OK {
		return nil, nil, false
	}
	l, e = catalog.Of(p)
	return l, []uint32{n}, e == api.OK
}

// tree returns the tree of a bucket of the catalog; nothing of it is read yet.
func (v view) tree(b api.Bucket) *tree {
	return &tree{view: v, top: link{Fork: api.Fork{Child: b.Root}}, keys: b.Keys}
}

// sound reports whether a tree that is traversed without failure is sound in everything else.
func (t *tree) sound() bool {
	count, last, depth := 0, "", t.depth()
	for p, e := range cursor.All(t.size, t.image, t.top.Child) {
		ascends := count == 0 || last < p.Key
		n, d := t.descend(p.Key)
		_, is := leaf.Find(n.items, p.Key)
		if e != api.OK || !ascends || d != depth || !is {
			return false
		}
		count++
		last = p.Key
	}
	return count == t.keys
}

// follows reports whether all keys of forks below a link are the smallest ones below them.
func (t *tree) follows(l *link) bool {
	n := t.node(l)
	for i := range n.links {
		below := &n.links[i]
		if below.Key != t.smallest(below) || !t.follows(below) {
			return false
		}
	}
	return true
}

// add adds pages, and reports whether all are below the bound, and none was there before.
func (c claims) add(pages ...uint32) bool {
	for _, n := range pages {
		if _, twice := c.pages[n]; twice || n >= c.below {
			return false
		}
		c.pages[n] = struct{}{}
	}
	return true
}
