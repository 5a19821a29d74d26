package device

import (
	"slices"
	"strings"
)

// image is the bytes of a file. Its pages are strings, so that images share those that they have in common, and reading one needs no copy.
type image struct {
	zeros string   // a page of zero bytes, which all pages that were skipped share
	pages []string // the complete pages
	rest  string   // the bytes after them, fewer than a page
}

// cut returns the image of some bytes.
func cut(size int, bytes string) image {
	whole := len(bytes) / size * size
	m := image{zeros: strings.Repeat("\x00", size), rest: bytes[whole:]}
	for at := 0; at < whole; at += size {
		m.pages = append(m.pages, bytes[at:at+size])
	}
	return m
}

// clone returns an image that changes independently.
func (m image) clone() image {
	m.pages = slices.Clone(m.pages)
	return m
}

// bytes returns all bytes of the image.
func (m image) bytes() string {
	var b strings.Builder
	b.Grow(len(m.pages)*len(m.zeros) + len(m.rest))
	for _, page := range m.pages {
		b.WriteString(page)
	}
	b.WriteString(m.rest)
	return b.String()
}

// write replaces page n by the block.
func (m *image) write(n uint32, block string) {
	m.extend(int(n) + 1)
	m.pages[n] = block
}

// extend adds zero bytes until there are that many complete pages.
func (m *image) extend(pages int) {
	if pages <= len(m.pages) {
		return
	}
	m.pages = append(m.pages, m.rest+m.zeros[len(m.rest):])
	m.rest = ""
	for len(m.pages) < pages {
		m.pages = append(m.pages, m.zeros)
	}
}

// truncate removes the bytes after n pages.
func (m *image) truncate(n uint32) {
	if int(n) > len(m.pages) {
		return
	}
	m.pages = slices.Delete(m.pages, int(n), len(m.pages))
	m.rest = ""
}
