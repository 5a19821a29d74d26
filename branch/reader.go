package branch

import (
	"strings"

	"careenage/api"
	"careenage/octet"
)

// reader reads a body. Its own methods panic where the body is not one of forks, so that no part that is read has to be asked for an error.
type reader struct {
	*octet.Reader
}

// bad is what a reader panics with.
type bad struct{}

// forks consumes that many forks, which have to be valid, with zero bytes after them.
func (r reader) forks(count int) []api.Fork {
	var l []api.Fork
	for range count {
		l = append(l, r.fork())
	}
	need(valid(l) && octet.Zero(r.Rest()))
	return l
}

// fork consumes a fork.
func (r reader) fork() api.Fork {
	key := r.text(int(r.number(lengthWidth)))
	return api.Fork{Key: key, Child: uint32(r.number(childWidth))}
}

// number consumes a number of that many bytes.
func (r reader) number(width int) uint64 {
	n, e := r.Number(width)
	need(e == api.OK)
	return n
}

// text consumes that many bytes.
func (r reader) text(length int) string {
	s, e := r.Bytes(length)
	need(e == api.OK)
	return strings.Clone(s) // so that a key does not hold a whole page in memory
}

// need panics unless something holds.
func need(holds bool) {
	if !holds {
		panic(bad{})
	}
}
