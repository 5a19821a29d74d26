package octet_test

import (
	"bytes"
	"math"
	"strings"
	"testing"

	"careenage/api"
	"careenage/octet"
)

var wrongWidths = []int{0, -1, 9, 64, math.MinInt, math.MaxInt}

// P1.1

func TestPutLaysLowestBytesFirst(t *testing.T) {
	const n = 0x8877665544332211
	all := "\x11\x22\x33\x44\x55\x66\x77\x88"
	for width := 1; width <= 8; width++ {
		if got := octet.Put([]byte("ab"), n, width); string(got) != "ab"+all[:width] {
			t.Errorf("width %d: %x", width, got)
		}
	}
}

func TestPutOfEdgeNumbers(t *testing.T) {
	tests := []struct {
		n     uint64
		width int
		want  string
	}{
		{258, 3, "\x02\x01\x00"},
		{0, 1, "\x00"},
		{255, 1, "\xff"},
		{256, 1, "\x00"},
		{0, 8, strings.Repeat("\x00", 8)},
		{math.MaxUint64, 8, strings.Repeat("\xff", 8)},
		{math.MaxUint64, 5, strings.Repeat("\xff", 5)},
		{1 << 63, 8, "\x00\x00\x00\x00\x00\x00\x00\x80"},
		{1 << 63, 7, strings.Repeat("\x00", 7)},
	}
	for _, c := range tests {
		if got := octet.Put(nil, c.n, c.width); string(got) != c.want {
			t.Errorf("%d in %d bytes: %x", c.n, c.width, got)
		}
	}
}

func TestPutOfWrongWidthAddsNothing(t *testing.T) {
	for _, width := range wrongWidths {
		if got := octet.Put([]byte("ab"), math.MaxUint64, width); string(got) != "ab" {
			t.Errorf("width %d: %x", width, got)
		}
		if got := octet.Put(nil, math.MaxUint64, width); len(got) != 0 {
			t.Errorf("width %d after nothing: %x", width, got)
		}
	}
}

func TestPutSharesNoMemory(t *testing.T) {
	for _, width := range []int{-1, 0, 1, 3, 8, 9} {
		for _, length := range []int{0, 1, 4} {
			memory := []byte("abcdefghijklmnopqrst")
			before := bytes.Clone(memory)
			got := octet.Put(memory[:length], math.MaxUint64, width)
			scribble(got)
			if !bytes.Equal(memory, before) {
				t.Errorf("width %d, length %d: the argument was changed to %q", width, length, memory)
			}
		}
	}
}

func TestPutKeepsNothing(t *testing.T) {
	b := []byte("ab")
	first := octet.Put(b, 1, 2)
	second := octet.Put(b, 1, 2)
	scribble(b)
	scribble(first)
	if string(second) != "ab\x01\x00" {
		t.Errorf("%q", second)
	}
}

// scribble overwrites a slice and its spare capacity.
func scribble(b []byte) {
	b = b[:cap(b)]
	for i := range b {
		b[i] = '#'
	}
}

// P1.2

func TestNumberOfEachWidth(t *testing.T) {
	s := "\x11\x22\x33\x44\x55\x66\x77\x88"
	const all = uint64(0x8877665544332211)
	for width := 1; width <= 8; width++ {
		r := octet.New(s + "z")
		want := all
		if width < 8 {
			want = all % (1 << (8 * width))
		}
		n, e := r.Number(width)
		if n != want || e != api.OK || r.Rest() != s[width:]+"z" {
			t.Errorf("width %d: %x %d %q", width, n, e, r.Rest())
		}
	}
}

func TestNumberOfHighBytes(t *testing.T) {
	r := octet.New(strings.Repeat("\xff", 9))
	if n, e := r.Number(8); n != math.MaxUint64 || e != api.OK {
		t.Errorf("%x %d", n, e)
	}
	if n, e := r.Number(1); n != 255 || e != api.OK {
		t.Errorf("%x %d", n, e)
	}
}

func TestNumberOfWrongWidth(t *testing.T) {
	for _, s := range []string{"", "abc", "abcdefghijklmnop"} {
		r := octet.New(s)
		for _, width := range wrongWidths {
			if n, e := r.Number(width); n != 0 || e != api.ErrArg {
				t.Errorf("%q, width %d: %d %d", s, width, n, e)
			}
		}
		wantLeft(t, r, s)
	}
}

func TestNumberBeyondTheEnd(t *testing.T) {
	for width := 1; width <= 8; width++ {
		s := strings.Repeat("\xff", width-1)
		r := octet.New(s)
		if n, e := r.Number(width); n != 0 || e != api.ErrMore {
			t.Errorf("width %d: %d %d", width, n, e)
		}
		wantLeft(t, r, s)
	}
}

func TestBytes(t *testing.T) {
	r := octet.New("abcde")
	steps := []struct {
		n    int
		want string
		e    api.Errno
		left string
	}{
		{0, "", api.OK, "abcde"},
		{2, "ab", api.OK, "cde"},
		{4, "", api.ErrMore, "cde"},
		{-1, "", api.ErrArg, "cde"},
		{math.MaxInt, "", api.ErrMore, "cde"},
		{math.MinInt, "", api.ErrArg, "cde"},
		{3, "cde", api.OK, ""},
		{0, "", api.OK, ""},
		{1, "", api.ErrMore, ""},
		{-1, "", api.ErrArg, ""},
	}
	for _, c := range steps {
		if s, e := r.Bytes(c.n); s != c.want || e != c.e {
			t.Errorf("Bytes(%d): %q %d", c.n, s, e)
		}
		wantLeft(t, r, c.left)
	}
}

func TestBytesAreNotText(t *testing.T) {
	s := "\x00\xff\xc3\x28\n\u00e9"
	r := octet.New(s)
	wantLeft(t, r, s)
	if got, e := r.Bytes(len(s)); got != s || e != api.OK {
		t.Errorf("%x %d", got, e)
	}
}

func TestReadersAreIndependent(t *testing.T) {
	first, second := octet.New("ab"), octet.New("ab")
	first.Bytes(1)
	wantLeft(t, first, "b")
	wantLeft(t, second, "ab")
}

func TestInvalidReaders(t *testing.T) {
	made := octet.New("abcdefgh")
	taken := *made
	moved := octet.New("z")
	*moved = *made
	invalid := []struct {
		name string
		r    *octet.Reader
	}{
		{"nil", nil},
		{"not made", &octet.Reader{}},
		{"a copy", &taken},
		{"overlaid", moved},
	}
	for _, c := range invalid {
		name, r := c.name, c.r
		for _, n := range []int{-1, 0, 1, 8, 9} {
			if v, e := r.Number(n); v != 0 || e != api.ErrNil {
				t.Errorf("%s: Number(%d): %d %d", name, n, v, e)
			}
			if s, e := r.Bytes(n); s != "" || e != api.ErrNil {
				t.Errorf("%s: Bytes(%d): %q %d", name, n, s, e)
			}
		}
		wantLeft(t, r, "")
	}
	wantLeft(t, made, "abcdefgh")
}

// wantLeft asks twice, because asking must not consume.
func wantLeft(t *testing.T, r *octet.Reader, want string) {
	t.Helper()
	for range 2 {
		if r.Rest() != want || r.Left() != len(want) {
			t.Errorf("left are %d: %q, not %q", r.Left(), r.Rest(), want)
		}
	}
}

func TestZero(t *testing.T) {
	for _, length := range []int{0, 1, 2, 7, 8, 9, 4096} {
		zeros := strings.Repeat("\x00", length)
		if !octet.Zero(zeros) {
			t.Errorf("%d zero bytes are not Zero", length)
		}
		for _, other := range []string{"\x01", "\x80", "\xff", "0", " "} {
			for _, s := range []string{zeros + other, other + zeros, zeros + other + zeros} {
				if octet.Zero(s) {
					t.Errorf("%x is Zero", s)
				}
			}
		}
	}
}

// P1.3

func TestWhatWasPutIsReadInOrder(t *testing.T) {
	numbers := []uint64{0, 1, 127, 128, 255, 256, 258, 1<<16 - 1, 1 << 31, 1<<32 - 1, 1 << 62, 1<<63 + 5, math.MaxUint64}
	var b []byte
	for _, n := range numbers {
		for width := 1; width <= 8; width++ {
			b = octet.Put(b, n, width)
		}
	}
	r := octet.New(string(b))
	for _, n := range numbers {
		for width := 1; width <= 8; width++ {
			want := n
			if width < 8 {
				want = n % (1 << (8 * width))
			}
			if got, e := r.Number(width); got != want || e != api.OK {
				t.Errorf("%x in %d bytes: %x %d", n, width, got, e)
			}
		}
	}
	wantLeft(t, r, "")
}

func TestNumbersAndBytesAreReadInOrder(t *testing.T) {
	b := append(octet.Put([]byte("head"), 258, 3), "body"...)
	b = octet.Put(b, 1<<40, 6)
	r := octet.New(string(b))
	head, e1 := r.Bytes(4)
	small, e2 := r.Number(3)
	body, e3 := r.Bytes(4)
	great, e4 := r.Number(6)
	if head != "head" || small != 258 || body != "body" || great != 1<<40 {
		t.Errorf("%q %d %q %d", head, small, body, great)
	}
	if e1 != api.OK || e2 != api.OK || e3 != api.OK || e4 != api.OK {
		t.Errorf("%d %d %d %d", e1, e2, e3, e4)
	}
	wantLeft(t, r, "")
}

func FuzzPutIsRead(f *testing.F) {
	f.Add([]byte("ab"), uint64(258), 3)
	f.Add([]byte{}, uint64(math.MaxUint64), 8)
	f.Fuzz(func(t *testing.T, b []byte, n uint64, width int) {
		r := octet.New(string(octet.Put(b, n, width)))
		if s, e := r.Bytes(len(b)); s != string(b) || e != api.OK {
			t.Fatalf("%x %d", s, e)
		}
		if width < 1 || width > 8 {
			wantLeft(t, r, "")
			return
		}
		want := n << (64 - 8*width) >> (64 - 8*width)
		if got, e := r.Number(width); got != want || e != api.OK {
			t.Fatalf("%x in %d bytes: %x %d", n, width, got, e)
		}
		wantLeft(t, r, "")
	})
}
