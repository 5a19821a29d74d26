package cursor

import (
	"careenage/api"
	"careenage/device"
)

// visitor is what one traversal knows: the image that it goes through, and the pages that it visited, those of chains among them.
type visitor struct {
	size    int
	image   string
	visited map[uint32]struct{}
	pages   []uint32 // the same, in their order
}

// newVisitor returns a visitor that did not visit anything yet.
func newVisitor(size int, image string) *visitor {
	return &visitor{size: size, image: image, visited: map[uint32]struct{}{}}
}

// visit records pages, up to the first one that was visited before, and reports whether there is none.
func (v *visitor) visit(pages ...uint32) bool {
	for _, n := range pages {
		if _, twice := v.visited[n]; twice {
			return false
		}
		v.visited[n] = struct{}{}
		v.pages = append(v.pages, n)
	}
	return true
}

// tree yields the pairs of the tree from root on. Nothing follows a pair with an error.
func tree(v *visitor, root uint32, yield func(api.Pair, api.Errno) bool) {
	switch {
	case !device.Good(v.size):
		yield(api.Pair{}, api.ErrArg)
	case root != 0:
		traverse(v, root, 1, yield)
	}
}

// traverse yields the pairs of the tree from page n on, and reports whether the traversal goes on after them: it did not fail, and was not left.
func traverse(v *visitor, n uint32, depth int, yield func(api.Pair, api.Errno) bool) bool {
	if depth > api.MaxDepth || !v.visit(n) {
		return fail(yield)
	}
	p := nodeAt(v.size, v.image, n)
	if p.kind == 0 {
		return fail(yield)
	}
	for _, f := range p.forks {
		if !traverse(v, f.Child, depth+1, yield) {
			return false
		}
	}
	for _, i := range p.items {
		s, chained, e := value(v.size, v.image, i)
		if e != api.OK || !v.visit(chained...) {
			return fail(yield)
		}
		if !yield(api.Pair{Key: i.Key, Value: s}, api.OK) {
			return false
		}
	}
	return true
}

// fail yields what is told where a traversal fails, and reports that it does not go on.
func fail(yield func(api.Pair, api.Errno) bool) bool {
	yield(api.Pair{}, api.ErrBad)
	return false
}
