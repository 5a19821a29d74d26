package store

import (
	"careenage/api"
	"careenage/branch"
	"careenage/chain"
	"careenage/frame"
	"careenage/leaf"
)

// view is the image of a commit, from which nodes and values are read. All that a tree refers to was found right when the store was opened, or written by it. It is not the image of the device, as others can change that.
type view struct {
	size  int
	image string
}

// node is a page of a tree: a branch, which has links, or a leaf, which has items. The leaf of an empty tree has none. A node does not change, except that those below it are read.
type node struct {
	links []link
	items []api.Item // one whose value is over, but not in a chain yet, has it as its Value, and no Head
}

// link is an element of a branch.
type link struct {
	api.Fork       // without a Child as long as the node is new
	to       *node // nil until it is read
}

// tree is the tree of a bucket.
type tree struct {
	view
	top   link // to the root; its key does not matter
	keys  int
	exact bool // the key of each fork is the smallest one below it, so that it need not be looked for
}

// node returns the node of a link.
func (v view) node(l *link) *node {
	if l.to == nil {
		l.to = v.read(l.Child)
	}
	return l.to
}

// read returns the node that is page n.
func (v view) read(n uint32) *node {
	if n == 0 { // the root of an empty tree
		return &node{}
	}
	p, _ := frame.Read(v.size, v.image, n)
	if p.Kind == api.KindLeaf {
		items, _ := leaf.Of(p)
		return &node{items: items}
	}
	forks, _ := branch.Of(p)
	q := &node{}
	for _, f := range forks {
		q.links = append(q.links, link{Fork: f})
	}
	return q
}

// value returns the value of an item.
func (v view) value(i api.Item) string {
	if i.Head == 0 {
		return i.Value
	}
	s, _, _ := chain.Read(v.size, v.image, i.Head, i.Len)
	return s
}

// pairs yields the pairs below a link, and reports whether all of them were asked for.
func (v view) pairs(l *link, yield func(api.Pair) bool) bool {
	n := v.node(l)
	for i := range n.links {
		if !v.pairs(&n.links[i], yield) {
			return false
		}
	}
	for _, i := range n.items {
		if !yield(api.Pair{Key: i.Key, Value: v.value(i)}) {
			return false
		}
	}
	return true
}

// each yields the pairs of the tree.
func (t *tree) each(yield func(api.Pair) bool) {
	t.pairs(&t.top, yield)
}

// descend returns the leaf that a key belongs to, and its depth.
func (t *tree) descend(key string) (n *node, depth int) {
	n = t.node(&t.top)
	for depth = 1; len(n.links) > 0; depth++ {
		n = t.node(&n.links[n.pick(key)])
	}
	return n, depth
}

// find returns the item of a key, and whether there is one.
func (t *tree) find(key string) (api.Item, bool) {
	n, _ := t.descend(key)
	i, is := leaf.Find(n.items, key)
	if !is {
		return api.Item{}, false
	}
	return n.items[i], true
}

// depth returns the depth of the tree, all leaves of which have the same one.
func (t *tree) depth() int {
	_, depth := t.descend("")
	return depth
}

// smallest returns the smallest key below a link.
func (t *tree) smallest(l *link) string {
	if t.exact && l.Child != 0 {
		return l.Key
	}
	n := t.node(l)
	if len(n.links) > 0 {
		return t.smallest(&n.links[0])
	}
	return n.items[0].Key
}

// pick returns the index of the link of a branch to which a key belongs.
func (n *node) pick(key string) int {
	var forks []api.Fork
	for _, l := range n.links {
		forks = append(forks, l.Fork)
	}
	return branch.Pick(forks, key)
}
