// Package octet encodes numbers as bytes, in little-endian order, and reads them back: layer 1.
package octet

import (
	"careenage/api"
)

// Reader reads a string from its front on. Only those that New returned are valid.
type Reader struct {
	self *Reader // itself: in a copy it is another reader, so that a copy is not taken for what New returned
	rest string  // what is not consumed yet
}

// Put returns a copy of b followed by that many of the lowest bytes of n, none if bytes is not from 1 to 8.
func Put(b []byte, n uint64, bytes int) []byte {
	if !isWidth(bytes) {
		bytes = 0
	}
	out := make([]byte, 0, len(b)+bytes)
	out = append(out, b...)
	for i := range bytes {
		out = append(out, byte(n>>(8*i)))
	}
	return out
}

// New returns a reader of s.
func New(s string) *Reader {
	r := &Reader{rest: s}
	r.self = r
	return r
}

// Number consumes a number of n bytes.
func (r *Reader) Number(n int) (uint64, api.Errno) {
	if !r.valid() {
		return 0, api.ErrNil
	}
	if !isWidth(n) {
		return 0, api.ErrArg
	}
	s, e := r.Bytes(n)
	if e != api.OK {
		return 0, e
	}
	return number(s), api.OK
}

// Bytes consumes n bytes.
func (r *Reader) Bytes(n int) (string, api.Errno) {
	if !r.valid() {
		return "", api.ErrNil
	}
	if n < 0 {
		return "", api.ErrArg
	}
	if n > len(r.rest) {
		return "", api.ErrMore
	}
	s := r.rest[:n]
	r.rest = r.rest[n:]
	return s, api.OK
}

// Left returns how many bytes are left.
func (r *Reader) Left() int {
	return len(r.Rest())
}

// Rest returns the bytes that are left, and consumes none.
func (r *Reader) Rest() string {
	if !r.valid() {
		return ""
	}
	return r.rest
}

// Zero reports whether all bytes of s are 0.
func Zero(s string) bool {
	for i := range len(s) {
		if s[i] != 0 {
			return false
		}
	}
	return true
}

func (r *Reader) valid() bool {
	return r != nil && r.self == r
}

// isWidth reports whether a number can have n bytes.
func isWidth(n int) bool {
	return n >= 1 && n <= 8
}

// number returns the number that at most 8 bytes encode.
func number(s string) uint64 {
	var n uint64
	for i := range len(s) {
		n |= uint64(s[i]) << (8 * i)
	}
	return n
}
