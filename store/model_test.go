package store_test

import (
	"cmp"
	"maps"
	"slices"

	"careenage/api"
)

// sheet is a node a second time. All of it is known at once.
type sheet struct {
	page  uint32   // 0: it is new
	keys  []string // as they are in the branch
	kids  []*sheet
	items []entry
}

type entry struct {
	key, value string
	over       bool
	pages      []uint32 // of its chain, once it has one
}

// model is a store a second time: it keeps all sheets, goes down and up without recursion, and lists free pages by counting them again and again.
type model struct {
	size, capacity int
	image          []byte
	tx             uint64
	pages          uint32
	own, free      []uint32
	kept, head     map[string]*sheet // the sheet of an empty bucket is empty
	changed        bool
}

// formattedModel is the model of a formatted file.
func formattedModel(size, capacity int) *model {
	f := newFile(size)
	f.meta(0, 0, 0, 2)
	f.meta(1, 0, 0, 2)
	return &model{size: size, capacity: capacity, image: []byte(f.image()), tx: 1, pages: 2, kept: map[string]*sheet{}, head: map[string]*sheet{}}
}

func (n *sheet) smallest() string {
	for len(n.kids) > 0 {
		n = n.kids[0]
	}
	return n.items[0].key
}

// each goes through all sheets below one, and that one, from below.
func (n *sheet) each(do func(*sheet)) {
	for _, k := range n.kids {
		k.each(do)
	}
	do(n)
}

func (n *sheet) count() int {
	sum := 0
	n.each(func(k *sheet) { sum += len(k.items) })
	return sum
}

func (n *sheet) depth() int {
	depth := 1
	for ; len(n.kids) > 0; n = n.kids[0] {
		depth++
	}
	return depth
}

// used are the pages that a sheet and all below it have.
func (n *sheet) used() []uint32 {
	var l []uint32
	n.each(func(k *sheet) {
		if k.page != 0 {
			l = append(l, k.page)
		}
		for _, i := range k.items {
			l = append(l, i.pages...)
		}
	})
	return l
}

func (i entry) size() int {
	if i.over {
		return 10 + len(i.key)
	}
	return 3 + len(i.key) + len(i.value)
}

// bytes are those of the elements of a sheet, with forks by the smallest keys.
func (n *sheet) bytes() int {
	sum := 0
	for _, i := range n.items {
		sum += i.size()
	}
	for _, k := range n.kids {
		sum += 5 + len(k.smallest())
	}
	return sum
}

// leaves are the leaves of items.
func (m *model) leaves(l []entry) []*sheet {
	var all []*sheet
	left := -1
	for _, i := range l {
		if i.size() > left {
			all = append(all, &sheet{})
			left = m.size - 24
		}
		last := all[len(all)-1]
		last.items = append(last.items, i)
		left -= i.size()
	}
	return all
}

// above are the branches above sheets.
func (m *model) above(l []*sheet) []*sheet {
	var all []*sheet
	left := -1
	for _, k := range l {
		size := 5 + len(k.smallest())
		if size > left {
			all = append(all, &sheet{})
			left = m.size - 24
		}
		last := all[len(all)-1]
		last.kids = append(last.kids, k)
		last.keys = append(last.keys, k.smallest())
		left -= size
	}
	return all
}

// merged are two sheets as one, if they fit.
func (m *model) merged(a, b *sheet) (*sheet, bool) {
	if a.bytes()+b.bytes() > m.size-24 {
		return nil, false
	}
	both := &sheet{kids: slices.Concat(a.kids, b.kids), items: slices.Concat(a.items, b.items)}
	for _, k := range both.kids {
		both.keys = append(both.keys, k.smallest())
	}
	return both, true
}

// changed is the tree from top on after the change of a leaf.
func (m *model) changedTree(top *sheet, key string, joins bool, edit func([]entry) []entry) *sheet {
	var path []*sheet
	var at []int
	n := top
	for len(n.kids) > 0 {
		i := 0
		for i+1 < len(n.keys) && n.keys[i+1] <= key && n.keys[0] <= key {
			i++
		}
		path, at = append(path, n), append(at, i)
		n = n.kids[i]
	}
	level := m.leaves(edit(slices.Clone(n.items)))
	for d := len(path) - 1; d >= 0; d-- {
		before, after := path[d].kids[:at[d]], path[d].kids[at[d]+1:]
		if joins && len(level) == 1 {
			if len(after) > 0 {
				if both, fit := m.merged(level[0], after[0]); fit {
					level[0], after = both, after[1:]
				}
			} else if len(before) > 0 {
				if both, fit := m.merged(before[len(before)-1], level[0]); fit {
					level[0], before = both, before[:len(before)-1]
				}
			}
		}
		level = m.above(slices.Concat(before, level, after))
	}
	for len(level) > 1 {
		level = m.above(level)
	}
	if len(level) == 0 {
		return &sheet{}
	}
	top = level[0]
	for len(top.kids) == 1 {
		top = top.kids[0]
	}
	return top
}

func (m *model) create(name string) api.Errno {
	size := 0
	for other := range m.head {
		if other != api.Lost {
			size += 9 + len(other)
		}
	}
	_, there := m.head[name]
	switch {
	case len(name) == 0 || len(name) > 16 || name == "lost+found":
		return api.ErrArg
	case there:
		return api.ErrThere
	case size+9+len(name) > m.size-24-19:
		return api.ErrFull
	}
	m.head[name], m.changed = &sheet{}, true
	return api.OK
}

func (m *model) drop(name string) api.Errno {
	if m.head[name] == nil {
		return api.ErrNone
	}
	delete(m.head, name)
	m.changed = true
	return api.OK
}

func (m *model) put(name, key, value string) api.Errno {
	top := m.head[name]
	switch {
	case len(key) > 32 || len(value) > 4096:
		return api.ErrArg
	case top == nil:
		return api.ErrNone
	}
	e := entry{key: key, value: value, over: len(value) > m.size/8 || len(value) > 255}
	top = m.changedTree(top, key, false, func(l []entry) []entry {
		l = slices.DeleteFunc(l, func(i entry) bool { return i.key == key })
		l = append(l, e)
		slices.SortFunc(l, func(a, b entry) int { return cmp.Compare(a.key, b.key) })
		return l
	})
	if top.depth() > 16 {
		return api.ErrFull
	}
	m.head[name], m.changed = top, true
	return api.OK
}

func (m *model) delete(name, key string) api.Errno {
	top := m.head[name]
	if top == nil {
		return api.ErrNone
	}
	there := false
	changed := m.changedTree(top, key, true, func(l []entry) []entry {
		return slices.DeleteFunc(l, func(i entry) bool {
			there = there || i.key == key
			return i.key == key
		})
	})
	if !there {
		return api.ErrNone
	}
	m.head[name], m.changed = changed, true
	return api.OK
}

func (m *model) abort() {
	m.head, m.changed = maps.Clone(m.kept), false
}

// taking is what is taken for one commit.
type taking struct {
	free  []uint32 // at once
	back  []uint32
	pages uint32
	most  uint32
	full  bool
}

func (k *taking) take() uint32 {
	if len(k.free) > 0 {
		n := k.free[0]
		k.free = k.free[1:]
		return n
	}
	k.full = k.full || k.pages == k.most
	k.pages++
	return k.pages - 1
}

// numbers are those of the list.
func (k *taking) numbers() []uint32 {
	return slices.Sorted(slices.Values(slices.Concat(k.free, k.back)))
}

// place is a sheet as it is written: those that are new with pages.
func (m *model) place(n *sheet, k *taking, f file) *sheet {
	if n.page != 0 || len(n.items)+len(n.kids) == 0 {
		return n
	}
	placed := &sheet{keys: n.keys}
	var forks []api.Fork
	for i, kid := range n.kids {
		kid = m.place(kid, k, f)
		placed.kids = append(placed.kids, kid)
		forks = append(forks, fork(n.keys[i], kid.page))
	}
	var items []api.Item
	for _, i := range n.items {
		if i.over && len(i.pages) == 0 {
			for range (len(i.value) + m.size - 25) / (m.size - 24) {
				i.pages = append(i.pages, k.take())
			}
			f.chain(m.tx+1, i.value, i.pages...)
		}
		if i.over {
			items = append(items, over(i.key, len(i.value), i.pages[0]))
		} else {
			items = append(items, in(i.key, i.value))
		}
		placed.items = append(placed.items, i)
	}
	placed.page = k.take()
	if len(forks) > 0 {
		f.branch(placed.page, m.tx+1, forks...)
	} else {
		f.leaf(placed.page, m.tx+1, items...)
	}
	return placed
}

// commit returns the blocks that are written, in order, the last one being the meta.
func (m *model) commit() ([]api.Write, api.Errno) {
	if !m.changed {
		return nil, api.OK
	}
	k := &taking{free: slices.Clone(m.free), pages: m.pages, most: uint32(m.capacity), back: slices.Clone(m.own)}
	stays := map[uint32]bool{}
	for _, top := range m.head {
		for _, n := range top.used() {
			stays[n] = true
		}
	}
	for _, top := range m.kept {
		k.back = append(k.back, slices.DeleteFunc(top.used(), func(n uint32) bool { return stays[n] })...)
	}
	f := newFile(m.size)
	placed := map[string]*sheet{}
	var l []api.Bucket
	for _, name := range slices.Sorted(maps.Keys(m.head)) {
		placed[name] = m.place(m.head[name], k, f)
		l = append(l, api.Bucket{Name: name, Root: placed[name].page, Keys: placed[name].count()})
	}
	root := k.take()
	f.catalog(root, m.tx+1, l...)
	lists := []uint32{}
	most := (m.size - 24) / 4
	for (len(k.numbers())+most-1)/most > len(lists) {
		lists = append(lists, k.take())
	}
	if k.full || m.tx >= 1<<62 {
		return nil, api.ErrFull
	}
	numbers := k.numbers()
	for i, n := range lists {
		count := min(most, len(numbers))
		f.list(n, append(slices.Clone(lists), 0)[i+1], m.tx+1, numbers[:count]...)
		numbers = numbers[count:]
	}
	m.free, m.own, m.pages = k.numbers(), append(slices.Clone(lists), root), k.pages
	m.tx++
	m.kept = placed
	m.abort()
	return m.written(f, root, append(slices.Clone(lists), 0)[0]), api.OK
}

// written writes blocks, then a meta.
func (m *model) written(f file, root, list uint32) []api.Write {
	var all []api.Write
	for _, n := range slices.Sorted(maps.Keys(f.blocks)) {
		all = append(all, api.Write{Page: n, Block: f.blocks[n]})
	}
	g := newFile(m.size)
	g.meta(m.tx, root, list, m.pages)
	for n, b := range g.blocks {
		all = append(all, api.Write{Page: n, Block: b})
	}
	for _, w := range all {
		m.image = laid(m.image, m.size, w)
	}
	return all
}

// laid is an image with a block.
func laid(image []byte, size int, w api.Write) []byte {
	end := (int(w.Page) + 1) * size
	if len(image) < end {
		image = append(image, make([]byte, end-len(image))...)
	}
	copy(image[end-size:], w.Block)
	return image
}

// contents are those of some trees.
func contents(trees map[string]*sheet) buckets {
	b := buckets{}
	for name, top := range trees {
		b[name] = map[string]string{}
		top.each(func(n *sheet) {
			for _, i := range n.items {
				b[name][i.key] = i.value
			}
		})
	}
	return b
}
