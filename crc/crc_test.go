package crc_test

import (
	"hash/crc32"
	"math"
	"math/bits"
	"strings"
	"testing"

	"careenage/crc"
)

// polynomial is what the document writes: its highest bit stands for the lowest power.
const polynomial = 0x1edc6f41

// slowly is the checksum by its definition, on numbers that are not reflected: the remainder of a division, bit by bit.
func slowly(b string) uint32 {
	rest := uint32(math.MaxUint32)
	for i := range len(b) {
		rest ^= uint32(bits.Reverse8(b[i])) << 24
		for range 8 {
			high := rest >> 31
			rest <<= 1
			if high == 1 {
				rest ^= polynomial
			}
		}
	}
	return ^bits.Reverse32(rest)
}

// samples are bytes of many lengths, those at the edges of words and pages among them; they are not text.
func samples() []string {
	lengths := []int{0, 1, 2, 3, 4, 5, 7, 8, 9, 15, 16, 31, 32, 63, 64, 128, 255, 256, 257, 1000, 4095, 4096, 4097}
	var all []string
	for _, n := range lengths {
		all = append(all, strings.Repeat("\x00", n), strings.Repeat("\xff", n), mixed(n))
	}
	return all
}

// mixed returns n bytes without a short period.
func mixed(n int) string {
	b := make([]byte, n)
	x := uint32(n) + 1
	for i := range b {
		x = x*1664525 + 1013904223
		b[i] = byte(x >> 24)
	}
	return string(b)
}

// P2.1

func TestTableIsEightStepsOfEachByte(t *testing.T) {
	got := crc.Table()
	for i := range 256 {
		n := uint32(i)
		for range 8 {
			odd := n%2 == 1
			n /= 2
			if odd {
				n ^= 0x82f63b78
			}
		}
		if got[i] != n {
			t.Errorf("byte %d: %08x, not %08x", i, got[i], n)
		}
	}
}

func TestTableOfKnownBytes(t *testing.T) {
	got := crc.Table()
	known := map[int]uint32{0: 0, 1: 0xf26b8303, 2: 0xe13b70f7, 64: 0x417b1dbc, 128: 0x82f63b78, 255: 0xad7d5351}
	for i, want := range known {
		if got[i] != want {
			t.Errorf("byte %d: %08x, not %08x", i, got[i], want)
		}
	}
}

func TestTableIsNewEachTime(t *testing.T) {
	first := crc.Table()
	clear(first[:])
	if got := crc.Table()[128]; got != 0x82f63b78 {
		t.Errorf("after a change of an earlier result: %08x", got)
	}
	if got := crc.Of("123456789"); got != 0xe3069283 {
		t.Errorf("Of after that: %08x", got)
	}
}

func TestOfKnownBytes(t *testing.T) {
	up, down := make([]byte, 32), make([]byte, 32)
	for i := range up {
		up[i], down[31-i] = byte(i), byte(i)
	}
	known := []struct {
		b    string
		want uint32
	}{
		{"", 0},
		{"a", 0xc1d04330},
		{"\x00", 0x527d5351},
		{"\xff", 0xff000000},
		{"123456789", 0xe3069283},
		{strings.Repeat("\x00", 32), 0x8a9136aa},
		{strings.Repeat("\xff", 32), 0x62a8ab43},
		{string(up), 0x46dd794e},
		{string(down), 0x113fdb5c},
	}
	for _, c := range known {
		if got := crc.Of(c.b); got != c.want {
			t.Errorf("%q: %08x, not %08x", c.b, got, c.want)
		}
	}
}

func TestOfIsTheChecksum(t *testing.T) {
	castagnoli := crc32.MakeTable(crc32.Castagnoli)
	for _, b := range samples() {
		got := crc.Of(b)
		if want := slowly(b); got != want {
			t.Errorf("%d bytes: %08x, not %08x", len(b), got, want)
		}
		if want := crc32.Checksum([]byte(b), castagnoli); got != want {
			t.Errorf("%d bytes: %08x, not %08x of Go's library", len(b), got, want)
		}
	}
}

func TestOfEachByte(t *testing.T) {
	for i := range 256 {
		b := string([]byte{byte(i)})
		if got, want := crc.Of(b), slowly(b); got != want {
			t.Errorf("byte %d: %08x, not %08x", i, got, want)
		}
	}
}

func TestOfBytesThatAreNoText(t *testing.T) {
	for _, b := range []string{"\xff\xfe", "\xc3\x28", "\xed\xa0\x80", "a\x00b", "\x00\x00", "\u00e9\n"} {
		if got, want := crc.Of(b), slowly(b); got != want {
			t.Errorf("%x: %08x, not %08x", b, got, want)
		}
	}
}

func TestMoreContinuesAtEveryPlace(t *testing.T) {
	for _, b := range []string{"", "a", "123456789", "\x00\x00\x00", "\xff\xff\xff\xff\xff", mixed(300)} {
		want := crc.Of(b)
		for i := range len(b) + 1 {
			if got := crc.More(crc.Of(b[:i]), b[i:]); got != want {
				t.Errorf("%x at %d: %08x, not %08x", b, i, got, want)
			}
		}
	}
}

func TestMoreOfManyPieces(t *testing.T) {
	b := mixed(1000)
	for _, size := range []int{1, 2, 3, 7, 64, 999, 1000} {
		c := crc.Of("")
		for i := 0; i < len(b); i += size {
			c = crc.More(c, b[i:min(i+size, len(b))])
			c = crc.More(c, "")
		}
		if c != crc.Of(b) {
			t.Errorf("pieces of %d: %08x, not %08x", size, c, crc.Of(b))
		}
	}
}

// Each number is the checksum of some bytes, so that More has an answer for all of them.
func TestMoreOfAnyNumber(t *testing.T) {
	castagnoli := crc32.MakeTable(crc32.Castagnoli)
	numbers := []uint32{0, 1, 0x7fffffff, 0x80000000, 0xe3069283, 0x82f63b78, 0xfffffffe, math.MaxUint32}
	for _, c := range numbers {
		if got := crc.More(c, ""); got != c {
			t.Errorf("%08x and no bytes: %08x", c, got)
		}
		before := withChecksum(c)
		if got := crc.Of(before); got != c {
			t.Fatalf("%x: %08x, not %08x", before, got, c)
		}
		for _, b := range samples() {
			got := crc.More(c, b)
			if want := crc32.Update(c, castagnoli, []byte(b)); got != want {
				t.Errorf("%08x and %d bytes: %08x, not %08x", c, len(b), got, want)
			}
			if want := crc.Of(before + b); got != want {
				t.Errorf("%08x and %d bytes: %08x, not %08x", c, len(b), got, want)
			}
		}
	}
}

// withChecksum returns the four bytes with that checksum, found by taking the steps back.
func withChecksum(c uint32) string {
	const reflected = 0x82f63b78
	n := ^c
	for range 32 {
		if n>>31 == 1 {
			n = (n^reflected)<<1 | 1
		} else {
			n <<= 1
		}
	}
	n = ^n
	return string([]byte{byte(n), byte(n >> 8), byte(n >> 16), byte(n >> 24)})
}

func TestResultsDependOnArgumentsAlone(t *testing.T) {
	for range 2 {
		for _, b := range []string{"123456789", "", "x"} {
			crc.More(math.MaxUint32, "between")
			if got, want := crc.Of(b), slowly(b); got != want {
				t.Errorf("%q: %08x, not %08x", b, got, want)
			}
		}
	}
}

// P2.2
//
// Bits are consecutive as the reflected form takes them: those of a byte from its lowest to its highest, then those of the next.

// turned returns b with the bits turned that pattern has, its lowest at bit place of b.
func turned(b string, place int, pattern uint32) string {
	out := []byte(b)
	for i := range 32 {
		if pattern>>i&1 == 1 {
			at := place + i
			out[at/8] ^= 1 << (at % 8)
		}
	}
	return string(out)
}

// A turn of several bits changes the checksum by the exclusive-or of what each changes alone
// (TestTurnsOfBitsAddUp). So every pattern changes it if no such exclusive-or is 0: if the
// changes of the single bits are independent.
func TestEveryTurnWithin32BitsChangesTheChecksum(t *testing.T) {
	for _, b := range []string{"a", "ab", "abc", "\x00\x00\x00\x00", "123456789", strings.Repeat("\x00", 33), strings.Repeat("\xff", 64), mixed(128)} {
		sum := crc.Of(b)
		var changes []uint32
		for place := range 8 * len(b) {
			changes = append(changes, crc.Of(turned(b, place, 1))^sum)
		}
		for place := range changes {
			window := changes[place:min(place+32, len(changes))]
			if rank(window) != len(window) {
				t.Errorf("%x: some turn within the %d bits from %d on leaves the checksum as it is", b, len(window), place)
			}
		}
	}
}

// rank returns how many of the numbers are independent under exclusive-or.
func rank(numbers []uint32) int {
	var base [32]uint32
	n := 0
	for _, x := range numbers {
		for x != 0 {
			high := bits.Len32(x) - 1
			if base[high] == 0 {
				base[high] = x
				n++
				break
			}
			x ^= base[high]
		}
	}
	return n
}

func TestTurnsOfBitsAddUp(t *testing.T) {
	for _, b := range []string{"123456789", strings.Repeat("\x00", 64), mixed(128)} {
		sum := crc.Of(b)
		for place := 0; place+32 <= 8*len(b); place += 5 {
			for _, pattern := range patterns() {
				var want uint32
				for i := range 32 {
					if pattern>>i&1 == 1 {
						want ^= crc.Of(turned(b, place+i, 1)) ^ sum
					}
				}
				if got := crc.Of(turned(b, place, pattern)) ^ sum; got != want {
					t.Fatalf("%x, pattern %08x at %d: %08x, not %08x", b, pattern, place, got, want)
				}
			}
		}
	}
}

// patterns are turns of 1 to 32 bits within 32.
func patterns() []uint32 {
	all := []uint32{1, 3, 5, 0x80, 0x100, 0x101, 0xffff, 0x80000000, 0x80000001, 0xfffffffe, 0x7fffffff, math.MaxUint32, 0x82f63b78, polynomial, 0xaaaaaaaa, 0x55555555}
	x := uint32(1)
	for range 16 {
		x = x*1664525 + 1013904223
		all = append(all, x)
	}
	return all
}

func TestTurnsWithin32BitsChangeTheChecksum(t *testing.T) {
	for _, b := range []string{"1234", "123456789", strings.Repeat("\x00", 24), strings.Repeat("\xff", 24), mixed(64)} {
		sum := crc.Of(b)
		for place := 0; place+32 <= 8*len(b); place++ {
			for _, pattern := range patterns() {
				if crc.Of(turned(b, place, pattern)) == sum {
					t.Errorf("%x: pattern %08x at %d leaves the checksum as it is", b, pattern, place)
				}
			}
		}
	}
}

func FuzzMore(f *testing.F) {
	f.Add("1234", "56789", uint32(3), uint32(1))
	f.Add("", "", uint32(0), uint32(0))
	f.Fuzz(func(t *testing.T, a, b string, place, pattern uint32) {
		whole := crc.Of(a + b)
		if whole != slowly(a+b) || crc.More(crc.Of(a), b) != whole {
			t.Fatalf("%x, %x: %08x", a, b, whole)
		}
		places := 8*len(a+b) - 31
		if pattern == 0 || places < 1 {
			return
		}
		if at := int(place % uint32(places)); crc.Of(turned(a+b, at, pattern)) == whole {
			t.Fatalf("%x: pattern %08x at %d leaves the checksum as it is", a+b, pattern, at)
		}
	})
}
