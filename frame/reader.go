package frame

import (
	"strings"

	"careenage/api"
	"careenage/crc"
	"careenage/device"
	"careenage/octet"
)

// reader reads a block of a page size. It panics with what is wrong, so that no part that is read has to be asked for an error.
type reader struct {
	size  int
	block string
}

// wrong is the error with which a reader panics.
type wrong api.Errno

// page returns the page with the number n.
func (r reader) page(n uint32) api.Page {
	r.need(device.Good(r.size), api.ErrArg)
	r.need(len(r.block) == r.size, api.ErrBad)
	r.need(r.number(atSum, atKind) == uint64(crc.Of(r.block[atKind:])), api.ErrBad)
	r.need(r.number(atVersion, atCount) == version, api.ErrBad)
	p := api.Page{
		Kind:  int(r.number(atKind, atVersion)),
		Count: int(r.number(atCount, atPage)),
		Page:  uint32(r.number(atPage, atLink)),
		Link:  uint32(r.number(atLink, atTx)),
		Tx:    r.number(atTx, atBody),
		Body:  strings.Clone(r.block[atBody:]), // so that a page does not hold a whole image in memory
	}
	r.need(p.Page == n && valid(r.size, p), api.ErrBad)
	return p
}

// number returns the number that stands between two indexes.
func (r reader) number(from, to int) uint64 {
	n, e := octet.New(r.block[from:to]).Number(to - from)
	r.need(e == api.OK, e)
	return n
}

// need panics with an error unless something holds.
func (r reader) need(holds bool, e api.Errno) {
	if !holds {
		panic(wrong(e))
	}
}
