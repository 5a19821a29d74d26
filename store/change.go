package store

import (
	"slices"

	"careenage/api"
	"careenage/branch"
	"careenage/build"
	"careenage/frame"
	"careenage/leaf"
)

// change is a change of a tree in the leaf that a key belongs to.
type change struct {
	*tree
	key   string
	edit  func([]api.Item) []api.Item // makes the items of the leaf new ones
	joins bool                        // nodes that fit together become one, as after a deletion
	loose bool                        // forks keep the keys that they had, even if these are not the smallest ones below them
}

// with returns the tree with a pair, and whether there can be such a tree.
func (t *tree) with(key, value string) (*tree, bool) {
	item := api.Item{Key: key, Value: value}
	if !leaf.In(t.size, len(value)) {
		item.Over, item.Len = true, len(value)
	}
	c := change{tree: t, key: key, edit: func(l []api.Item) []api.Item {
		i, is := leaf.Find(l, key)
		if is {
			l = slices.Delete(l, i, i+1)
		}
		return slices.Insert(l, i, item)
	}}
	changed := c.made()
	if _, there := t.find(key); !there {
		changed.keys++
	}
	if changed.keys > api.MaxPage || changed.depth() > api.MaxDepth {
		return nil, false
	}
	return changed, true
}

// without returns the tree without a key that it has.
func (t *tree) without(key string) *tree {
	c := change{tree: t, key: key, joins: true, edit: func(l []api.Item) []api.Item {
		i, _ := leaf.Find(l, key)
		return slices.Delete(l, i, i+1)
	}}
	changed := c.made()
	if changed.depth() > api.MaxDepth {
		// A deletion never fails. But where the smallest key becomes a longer one, branches are divided for it, and in the end the tree could no longer be read. With the keys that the forks had, and without joining, which could bring them out of order, no branch grows.
		c.joins, c.loose = false, true
		changed = c.made()
	}
	changed.keys--
	return changed
}

// made returns the changed tree, with as many keys as before.
func (c change) made() *tree {
	nodes := c.replaced(c.node(&c.top))
	for len(nodes) > 1 {
		nodes = c.branches(c.keyed(linked(nodes, "")))
	}
	t := &tree{view: c.view, keys: c.keys, exact: c.exact && !c.loose}
	if len(nodes) > 0 {
		t.top.to = nodes[0]
	}
	for n := t.node(&t.top); len(n.links) == 1; n = t.node(&t.top) {
		t.top = n.links[0]
	}
	return t
}

// replaced returns the nodes by which a node on the path is replaced.
func (c change) replaced(n *node) []*node {
	if len(n.links) == 0 {
		return c.leaves(c.edit(slices.Clone(n.items)))
	}
	i := n.pick(c.key)
	nodes := c.replaced(c.node(&n.links[i]))
	from, to := i, i+1
	if c.joins && len(nodes) == 1 {
		nodes, from, to = c.joined(n, i, nodes[0])
	}
	links := slices.Concat(n.links[:from], linked(nodes, n.links[from].Key), n.links[to:])
	return c.branches(c.keyed(links))
}

// joined returns the nodes by which the links of n from one index to another one are replaced: the changed one that takes the place of link i, together with its neighbour if there is one with which it fits.
func (c change) joined(n *node, i int, changed *node) (nodes []*node, from, to int) {
	from, to = i, i+2
	if to > len(n.links) {
		from, to = i-1, i+1
	}
	if from >= 0 {
		pair := [2]*node{c.node(&n.links[from]), c.node(&n.links[to-1])}
		pair[i-from] = changed
		both := &node{
			links: c.keyed(slices.Concat(pair[0].links, pair[1].links)),
			items: slices.Concat(pair[0].items, pair[1].items),
		}
		if both.bytes() <= frame.Room(c.size) {
			return []*node{both}, from, to
		}
	}
	return []*node{changed}, i, i + 1
}

// leaves returns the leaves of items.
func (c change) leaves(l []api.Item) []*node {
	var nodes []*node
	for _, part := range parts(l, itemSize, frame.Room(c.size)) {
		nodes = append(nodes, &node{items: part})
	}
	return nodes
}

// branches returns the branches of links.
func (c change) branches(l []link) []*node {
	var nodes []*node
	for _, part := range parts(l, linkSize, frame.Room(c.size)) {
		nodes = append(nodes, &node{links: part})
	}
	return nodes
}

// keyed returns links with their keys as they are to be in a branch.
func (c change) keyed(l []link) []link {
	l = slices.Clone(l)
	for i := range l {
		if !c.loose {
			l[i].Key = c.smallest(&l[i])
		}
	}
	return l
}

// linked returns links to new nodes, all with the same key.
func linked(nodes []*node, key string) []link {
	var l []link
	for _, n := range nodes {
		l = append(l, link{Fork: api.Fork{Key: key}, to: n})
	}
	return l
}

// parts returns elements in parts, of which each has as many as fit. Each element does.
func parts[T any](l []T, size func(T) int, room int) [][]T {
	var sizes []int
	for _, x := range l {
		sizes = append(sizes, size(x))
	}
	var all [][]T
	from := 0
	for _, to := range build.Cut(sizes, room) {
		all = append(all, l[from:to:to])
		from = to
	}
	return all
}

// bytes returns the number of bytes that the elements of a node take.
func (n *node) bytes() int {
	sum := leaf.Size(n.items)
	for _, l := range n.links {
		sum += linkSize(l)
	}
	return sum
}

func itemSize(i api.Item) int {
	return leaf.Size([]api.Item{i})
}

func linkSize(l link) int {
	return branch.Size([]api.Fork{l.Fork})
}
