package build

import (
	"cmp"
	"slices"

	"careenage/api"
	"careenage/chain"
	"careenage/frame"
	"careenage/leaf"
	"careenage/over"
)

// tree is the tree of some pairs. Its pages are numbered, but not made.
type tree struct {
	from     uint32 // the first page of all
	first    uint32 // the first leaf
	items    []api.Item
	leaves   [][]api.Item
	branches [][]api.Fork // of all levels, upwards
}

// planned returns the tree of pairs of which there is one.
func planned(size int, from uint32, l []api.Pair) tree {
	t := tree{from: from, first: from}
	for _, p := range l {
		i := item(size, p, t.first)
		t.items = append(t.items, i)
		t.first += uint32(over.Need(size, i.Len))
	}
	t.leaves = parts(t.items, frame.Room(size), items())
	next := t.first
	level := above(t.leaves, next, items())
	for len(level) > 1 {
		next += uint32(len(level))
		nodes := parts(level, frame.Room(size), forks())
		t.branches = append(t.branches, nodes...)
		level = above(nodes, next, forks())
	}
	return t
}

// item returns the item of a pair, with the page at which the chain of its value begins if it needs one.
func item(size int, p api.Pair, head uint32) api.Item {
	if leaf.In(size, len(p.Value)) {
		return api.Item{Key: p.Key, Value: p.Value}
	}
	return api.Item{Key: p.Key, Over: true, Len: len(p.Value), Head: head}
}

// above returns the forks to nodes that are numbered from n on.
func above[T any](nodes [][]T, n uint32, of elements[T]) []api.Fork {
	var l []api.Fork
	for i, node := range nodes {
		l = append(l, api.Fork{Key: of.key(node[0]), Child: n + uint32(i)})
	}
	return l
}

// count returns the number of pages of the tree.
func (t tree) count() int {
	return int(t.first-t.from) + len(t.leaves) + len(t.branches)
}

// pages returns the pages of the tree, which is that of the pairs l.
func (t tree) pages(size int, tx uint64, l []api.Pair) ([]api.Page, api.Errno) {
	chains, e := t.chains(size, tx, l)
	leaves, f := made(size, tx, t.first, t.leaves, items())
	branches, g := made(size, tx, t.first+uint32(len(t.leaves)), t.branches, forks())
	if e = cmp.Or(e, f, g); e != api.OK {
		return nil, e
	}
	return slices.Concat(chains, leaves, branches), api.OK
}

// chains returns the pages of the values that are over.
func (t tree) chains(size int, tx uint64, l []api.Pair) ([]api.Page, api.Errno) {
	var all []api.Page
	for i, p := range l {
		if !t.items[i].Over {
			continue
		}
		pages, e := chain.Pages(size, tx, t.items[i].Head, p.Value)
		if e != api.OK {
			return nil, e
		}
		all = append(all, pages...)
	}
	return all, api.OK
}

// made returns the pages of nodes, numbered from n on.
func made[T any](size int, tx uint64, n uint32, nodes [][]T, of elements[T]) ([]api.Page, api.Errno) {
	var all []api.Page
	for i, node := range nodes {
		p, e := of.page(size, n+uint32(i), tx, node)
		if e != api.OK {
			return nil, e
		}
		all = append(all, p)
	}
	return all, api.OK
}
