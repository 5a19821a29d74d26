package leaf

import (
	"cmp"
	"strings"

	"careenage/api"
	"careenage/octet"
)

// reader reads the items of a body. Where a part is missing, its methods go on to the next one and return the first error: what comes with an error is not to be used.
type reader struct {
	from *octet.Reader
}

// times returns what a function reads when it is called that many times, up to the first error.
func times[T any](count int, read func() (T, api.Errno)) ([]T, api.Errno) {
	var l []T
	for range count {
		t, e := read()
		if e != api.OK {
			return nil, e
		}
		l = append(l, t)
	}
	return l, api.OK
}

// item consumes an item.
func (r reader) item() (api.Item, api.Errno) {
	kind, noKind := r.from.Number(kindWidth)
	key, noKey := r.text()
	value := r.inPlace // also for a kind that there is not, as Of asks whether the page made of the items is the same
	if kind == kindOver {
		value = r.over
	}
	i, noValue := value(key)
	return i, cmp.Or(noKind, noKey, noValue)
}

// inPlace consumes a value in place, and returns the item that a key has with it.
func (r reader) inPlace(key string) (api.Item, api.Errno) {
	value, e := r.text()
	return api.Item{Key: key, Value: value}, e
}

// over consumes what is told of a value in a chain, and returns the item that a key has with it.
func (r reader) over(key string) (api.Item, api.Errno) {
	length, noLength := r.from.Number(lenWidth)
	head, noHead := r.from.Number(headWidth)
	return api.Item{Key: key, Over: true, Len: int(length), Head: uint32(head)}, cmp.Or(noLength, noHead)
}

// text consumes bytes behind their number.
func (r reader) text() (string, api.Errno) {
	length, noLength := r.from.Number(lengthWidth)
	s, noText := r.from.Bytes(int(length))
	return strings.Clone(s), cmp.Or(noLength, noText) // a clone, so that it does not hold a whole page in memory
}
