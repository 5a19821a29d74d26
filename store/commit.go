package store

import (
	"slices"

	"careenage/alloc"
	"careenage/api"
	"careenage/branch"
	"careenage/catalog"
	"careenage/chain"
	"careenage/device"
	"careenage/frame"
	"careenage/free"
	"careenage/leaf"
	"careenage/meta"
	"careenage/over"
)

// draft is a commit that is being made.
type draft struct {
	view                        // of the last commit
	last    commit              // the one before it
	next    commit              // the one that it becomes
	trees   map[string]*tree    // of all buckets
	alloc   *alloc.Alloc        // of the pages of the last commit
	kept    map[uint32]struct{} // nodes of the last commit that stay, with all that is below them, and first pages of chains that stay
	pages   []api.Page          // that are new, except for the meta; they ascend, as a page that is taken is always above those before it
	buckets []api.Bucket
}

// drafted returns the draft of a commit of trees. Nothing is written yet.
func drafted(last commit, trees map[string]*tree, capacity int) (*draft, api.Errno) {
	if last.meta.Tx >= api.MaxTx {
		return nil, api.ErrFull
	}
	a, e := alloc.New(last.free, last.meta.Pages, uint32(capacity))
	if e != api.OK {
		return nil, e
	}
	d := &draft{view: last.view, last: last, trees: trees, alloc: a, kept: map[uint32]struct{}{}}
	d.next.meta = api.Meta{Tx: last.meta.Tx + 1, Size: last.size}
	if e := inTurn(d.giveBack, d.layTrees, d.layCatalog, d.layList, d.finish); e != api.OK {
		return nil, e
	}
	return d, api.OK
}

// write writes the draft to a device: first all that the meta leads to.
func (d *draft) write(to *device.Device) api.Errno {
	var steps []func() api.Errno
	for _, p := range d.pages {
		steps = append(steps, func() api.Errno { return writePage(to, p) })
	}
	last := func() api.Errno { return writeMeta(to, d.next.meta) }
	return inTurn(append(steps, to.Sync, last, to.Sync)...)
}

// giveBack gives the pages back that are no longer in use.
func (d *draft) giveBack() api.Errno {
	for _, t := range d.trees {
		d.keep(&t.top)
	}
	gone := slices.Clone(d.last.own)
	for _, name := range sorted(d.last.trees) {
		gone = append(gone, d.gone(&d.last.trees[name].top)...)
	}
	for _, n := range gone {
		if e := d.alloc.Give(n); e != api.OK {
			return e
		}
	}
	return api.OK
}

// keep records what stays of what is below a link, that node included.
func (d *draft) keep(l *link) {
	if l.Child != 0 {
		d.kept[l.Child] = struct{}{}
		return
	}
	n := d.node(l)
	for i := range n.links {
		d.keep(&n.links[i])
	}
	for _, i := range n.items {
		if i.Head != 0 {
			d.kept[i.Head] = struct{}{}
		}
	}
}

// gone returns the pages below a link of the last commit that do not stay, that of the node included.
func (d *draft) gone(l *link) []uint32 {
	if _, stays := d.kept[l.Child]; stays || l.Child == 0 {
		return nil
	}
	all := []uint32{l.Child}
	n := d.node(l)
	for i := range n.links {
		all = append(all, d.gone(&n.links[i])...)
	}
	for _, i := range n.items {
		if _, stays := d.kept[i.Head]; !stays && i.Over {
			_, chained, _ := chain.Read(d.size, d.image, i.Head, i.Len)
			all = append(all, chained...)
		}
	}
	return all
}

// layTrees lays what is new in the trees.
func (d *draft) layTrees() api.Errno {
	for _, name := range sorted(d.trees) {
		t := d.trees[name]
		root, e := d.layNode(&t.top)
		if e != api.OK {
			return e
		}
		d.buckets = append(d.buckets, api.Bucket{Name: name, Root: root, Keys: t.keys})
	}
	return api.OK
}

// layNode lays the node of a link, if it is new, after all that is new below it, and returns its page, or none for an empty tree.
func (d *draft) layNode(l *link) (uint32, api.Errno) {
	if l.Child != 0 {
		return l.Child, api.OK
	}
	n := d.node(l)
	switch {
	case len(n.links) > 0:
		return d.layBranch(n.links)
	case len(n.items) > 0:
		return d.layLeaf(n.items)
	}
	return 0, api.OK
}

func (d *draft) layBranch(l []link) (uint32, api.Errno) {
	var forks []api.Fork
	for i := range l {
		child, e := d.layNode(&l[i])
		if e != api.OK {
			return 0, e
		}
		forks = append(forks, api.Fork{Key: l[i].Key, Child: child})
	}
	return d.lay(func(n uint32) (api.Page, api.Errno) { return branch.Page(d.size, n, d.next.meta.Tx, forks) })
}

func (d *draft) layLeaf(l []api.Item) (uint32, api.Errno) {
	items := slices.Clone(l)
	for i, k := range l {
		if !k.Over || k.Head != 0 {
			continue
		}
		head, e := d.layValue(k.Value)
		if e != api.OK {
			return 0, e
		}
		items[i].Head, items[i].Value = head, ""
	}
	return d.lay(func(n uint32) (api.Page, api.Errno) { return leaf.Page(d.size, n, d.next.meta.Tx, items) })
}

// layValue lays a value in a chain, and returns its first page.
func (d *draft) layValue(value string) (uint32, api.Errno) {
	var pages []uint32
	for range over.Need(d.size, len(value)) {
		n, e := d.alloc.Take()
		if e != api.OK {
			return 0, e
		}
		pages = append(pages, n)
	}
	l, e := chain.On(d.size, d.next.meta.Tx, pages, value)
	if e != api.OK {
		return 0, e
	}
	d.pages = append(d.pages, l...)
	return pages[0], api.OK
}

// layCatalog lays the catalog.
func (d *draft) layCatalog() api.Errno {
	n, e := d.lay(func(n uint32) (api.Page, api.Errno) { return catalog.Page(d.size, n, d.next.meta.Tx, d.buckets) })
	d.next.meta.Root = n
	d.next.own = append(d.next.own, n)
	return e
}

// layList lays the list of what is free then. Its own pages can be among those that were free.
func (d *draft) layList() api.Errno {
	var pages []uint32
	for count := len(d.alloc.Free()); free.Need(d.size, count) > len(pages); {
		before := d.alloc.Pages()
		n, e := d.alloc.Take()
		if e != api.OK {
			return e
		}
		if d.alloc.Pages() == before { // there are not more pages, so that it was free
			count--
		}
		pages = append(pages, n)
	}
	l, e := chain.Lists(d.size, d.next.meta.Tx, pages, d.alloc.Free())
	if e != api.OK {
		return e
	}
	if len(pages) > 0 {
		d.next.meta.Free = pages[0]
	}
	d.pages = append(d.pages, l...)
	d.next.own = append(d.next.own, pages...)
	return api.OK
}

// finish makes of the draft what is kept of it as a commit.
func (d *draft) finish() api.Errno {
	image, e := chain.Lay(d.size, d.image, d.pages)
	if e != api.OK {
		return e
	}
	d.next.view = view{d.size, image}
	d.next.meta.Pages = d.alloc.Pages()
	d.next.free = d.alloc.Free()
	d.next.trees = map[string]*tree{}
	for _, b := range d.buckets {
		t := d.next.tree(b)
		t.exact = d.trees[b.Name].exact
		d.next.trees[b.Name] = t
	}
	return api.OK
}

// lay lays the page that is made for the number of one that is taken for it, and returns that number.
func (d *draft) lay(page func(n uint32) (api.Page, api.Errno)) (uint32, api.Errno) {
	n, e := d.alloc.Take()
	if e != api.OK {
		return 0, e
	}
	p, e := page(n)
	if e != api.OK {
		return 0, e
	}
	d.pages = append(d.pages, p)
	return n, api.OK
}

// writePage writes a page to a device.
func writePage(to *device.Device, p api.Page) api.Errno {
	block, e := frame.Put(to.Size(), p)
	if e != api.OK {
		return e
	}
	return to.Write(p.Page, block)
}

// writeMeta writes a meta to a device.
func writeMeta(to *device.Device, m api.Meta) api.Errno {
	p, e := meta.Page(m)
	if e != api.OK {
		return e
	}
	return writePage(to, p)
}

// inTurn takes steps, up to the first one with an error, and returns that error.
func inTurn(steps ...func() api.Errno) api.Errno {
	for _, step := range steps {
		if e := step(); e != api.OK {
			return e
		}
	}
	return api.OK
}
