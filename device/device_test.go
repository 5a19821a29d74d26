package device_test

import (
	"math"
	"slices"
	"strings"
	"testing"

	"careenage/api"
	"careenage/device"
)

// page returns a page of 128 bytes that are all the same.
func page(c string) string {
	return strings.Repeat(c, 128)
}

// made returns a device of page size 128.
func made(t *testing.T, capacity int, image string) *device.Device {
	t.Helper()
	d, e := device.New(128, capacity, image)
	if e != api.OK || d == nil {
		t.Fatalf("New of %d bytes, capacity %d: %v %d", len(image), capacity, d, e)
	}
	return d
}

func wantErr(t *testing.T, what string, got, want api.Errno) {
	t.Helper()
	if got != want {
		t.Errorf("%s: error %d, not %d", what, got, want)
	}
}

// state is all that a device tells without being asked for a page.
type state struct {
	image, durable      string
	pages, pending, ops int
}

func stateOf(d *device.Device) state {
	return state{d.Image(), d.Durable(), d.Pages(), d.Pending(), d.Ops()}
}

func wantState(t *testing.T, what string, d *device.Device, want state) {
	t.Helper()
	if got := stateOf(d); got != want {
		t.Errorf("%s:\n%+v, not\n%+v", what, got, want)
	}
}

// P3.1

func TestGood(t *testing.T) {
	good := map[int]bool{}
	for size := 128; size <= 4096; size += 64 {
		good[size] = true
	}
	for size := -5000; size <= 9000; size++ {
		if device.Good(size) != good[size] {
			t.Errorf("Good(%d) is %v", size, device.Good(size))
		}
	}
	for _, size := range []int{math.MinInt, math.MinInt + 128, math.MaxInt, math.MaxInt - 63, 1 << 32, 1<<32 + 128, 1<<62 + 128} {
		if device.Good(size) {
			t.Errorf("Good(%d)", size)
		}
	}
}

func TestNewOfWrongNumbers(t *testing.T) {
	wrongSizes := []int{0, -128, 64, 127, 129, 192 + 1, 4095, 4097, 4160, math.MinInt, math.MaxInt}
	wrongCaps := []int{1, 0, -1, -2, 1<<20 + 1, 1 << 32, math.MinInt, math.MaxInt}
	for _, image := range []string{"", page("x"), strings.Repeat("x", 9000)} {
		for _, size := range wrongSizes {
			wantNone(t, size, 9, image, api.ErrArg)
		}
		for _, capacity := range wrongCaps {
			wantNone(t, 128, capacity, image, api.ErrArg)
		}
	}
}

func wantNone(t *testing.T, size, capacity int, image string, want api.Errno) {
	t.Helper()
	if d, e := device.New(size, capacity, image); d != nil || e != want {
		t.Errorf("New(%d, %d) of %d bytes: %v %d, not %d", size, capacity, len(image), d, e, want)
	}
}

func TestNewOfTooManyPages(t *testing.T) {
	for _, size := range []int{128, 192, 4096} {
		for _, capacity := range []int{2, 3, 9} {
			wantNone(t, size, capacity, strings.Repeat("x", size*(capacity+1)), api.ErrFull)
			wantNone(t, size, capacity, strings.Repeat("x", size*(capacity+3)+1), api.ErrFull)
			fits := strings.Repeat("x", size*(capacity+1)-1)
			d, e := device.New(size, capacity, fits)
			if e != api.OK || d.Image() != fits || d.Pages() != capacity {
				t.Errorf("size %d, capacity %d: an incomplete page after the last is refused: %d", size, capacity, e)
			}
		}
	}
}

func TestNewIsDurable(t *testing.T) {
	for _, size := range []int{128, 192, 1024, 4096} {
		for _, capacity := range []int{2, 11, api.MaxPages} {
			for _, n := range []int{0, 1, size - 1, size, size + 1, 2*size - 1, 2 * size, 2*size + 44} {
				image := strings.Repeat("abcde\x00\xff", n)[:n]
				d, e := device.New(size, capacity, image)
				if e != api.OK || d.Size() != size || d.Cap() != capacity {
					t.Fatalf("size %d, capacity %d, %d bytes: %v %d", size, capacity, n, d, e)
				}
				wantState(t, "New", d, state{image, image, n / size, 0, 0})
			}
		}
	}
}

func TestNewHasNoFuse(t *testing.T) {
	d := made(t, 2, "")
	for i := range 1000 {
		if e := []api.Errno{d.Write(1, page("x")), d.Truncate(0), d.Sync()}; slices.Max(e) != api.OK {
			t.Fatalf("step %d: %d", i, e)
		}
	}
	if d.Ops() != 3000 {
		t.Errorf("%d operations", d.Ops())
	}
}

func TestSizeAndCapStay(t *testing.T) {
	d := made(t, 9, page("x"))
	d.Write(7, page("y"))
	d.Sync()
	d.Truncate(0)
	d.Crash(nil)
	if d.Size() != 128 || d.Cap() != 9 {
		t.Errorf("%d %d", d.Size(), d.Cap())
	}
}

func TestInvalidDevices(t *testing.T) {
	good := made(t, 9, page("x"))
	wantErr(t, "Write", good.Write(3, page("y")), api.OK)
	before := stateOf(good)
	taken := *good
	overlaid := made(t, 9, page("z"))
	*overlaid = *good
	invalid := map[string]*device.Device{"nil": nil, "not made": {}, "a copy": &taken, "overlaid": overlaid}
	for name, d := range invalid {
		d.Fuse(0)
		for _, n := range []uint32{0, 9, 10, math.MaxUint32} {
			for _, block := range []string{page("y"), ""} {
				wantErr(t, name+": Write", d.Write(n, block), api.ErrNil)
			}
			wantErr(t, name+": Truncate", d.Truncate(n), api.ErrNil)
			if s, e := d.Read(n); s != "" || e != api.ErrNil {
				t.Errorf("%s: Read: %q %d", name, s, e)
			}
		}
		wantErr(t, name+": Sync", d.Sync(), api.ErrNil)
		wantErr(t, name+": Crash", d.Crash([]int{0}), api.ErrNil)
		wantState(t, name, d, state{})
		if d.Size() != 0 || d.Cap() != 0 {
			t.Errorf("%s: %d %d", name, d.Size(), d.Cap())
		}
	}
	wantState(t, "what was made", good, before)
	wantErr(t, "Sync of what was made", good.Sync(), api.OK)
}

func TestDevicesAreIndependent(t *testing.T) {
	image := page("x") + page("y")
	first, second := made(t, 9, image), made(t, 9, image)
	first.Write(0, page("z"))
	first.Truncate(1)
	first.Sync()
	wantState(t, "the other device", second, state{image, image, 2, 0, 0})
}

// P3.2

func TestRead(t *testing.T) {
	image := page("x") + page("\x00") + page("\xff") + "rest"
	d := made(t, 9, image)
	for n, want := range []string{page("x"), page("\x00"), page("\xff")} {
		if s, e := d.Read(uint32(n)); s != want || e != api.OK {
			t.Errorf("page %d: %q %d", n, s, e)
		}
	}
	for _, n := range []uint32{3, 4, 8, 9, 1 << 31, math.MaxUint32} {
		if s, e := d.Read(n); s != "" || e != api.ErrNone {
			t.Errorf("page %d: %q %d", n, s, e)
		}
	}
	wantState(t, "after reading", d, state{image, image, 3, 0, 0})
	if s, e := made(t, 2, "rest").Read(0); s != "" || e != api.ErrNone {
		t.Errorf("no complete page: %q %d", s, e)
	}
}

func TestReadSeesWhatIsPending(t *testing.T) {
	d := made(t, 9, page("x")+page("y"))
	d.Write(0, page("z"))
	if s, e := d.Read(0); s != page("z") || e != api.OK {
		t.Errorf("%q %d", s, e)
	}
	d.Truncate(1)
	if s, e := d.Read(1); s != "" || e != api.ErrNone {
		t.Errorf("%q %d", s, e)
	}
}

func TestWrite(t *testing.T) {
	x, y, zero := page("x"), page("y"), page("\x00")
	rest := strings.Repeat("r", 44)
	tests := []struct {
		name, image string
		n           uint32
		want        string
	}{
		{"within", x + x + x, 1, x + y + x},
		{"first", x + x, 0, y + x},
		{"last", x + x, 1, x + y},
		{"right after", x, 1, x + y},
		{"into nothing", "", 0, y},
		{"far into nothing", "", 3, zero + zero + zero + y},
		{"after a gap", x, 3, x + zero + zero + y},
		{"before a rest", x + x + rest, 0, y + x + rest},
		{"over a rest", x + x + rest, 2, x + x + y},
		{"over nothing but a rest", rest, 0, y},
		{"behind a rest", x + rest, 2, x + rest + zero[44:] + y},
		{"far behind a rest", x + rest, 4, x + rest + zero[44:] + zero + zero + y},
		{"at the capacity", x + x, 8, x + x + strings.Repeat(zero, 6) + y},
		{"over a rest of one byte", x + "r", 1, x + y},
		{"behind a rest of all but one byte", y[1:], 1, y[1:] + "\x00" + y},
	}
	for _, c := range tests {
		d := made(t, 9, c.image)
		wantErr(t, c.name, d.Write(c.n, y), api.OK)
		wantState(t, c.name, d, state{c.want, c.image, len(c.want) / 128, 1, 1})
	}
}

func TestWriteOfOtherSizes(t *testing.T) {
	for _, size := range []int{192, 512, 4096} {
		d, e := device.New(size, 4, "rest")
		wantErr(t, "New", e, api.OK)
		block := strings.Repeat("ab", size/2)
		wantErr(t, "Write", d.Write(2, block), api.OK)
		want := "rest" + strings.Repeat("\x00", 2*size-4) + block
		wantState(t, "Write", d, state{want, "rest", 3, 1, 1})
	}
}

func TestWriteOfWrongBlocks(t *testing.T) {
	d := made(t, 9, page("x"))
	before := stateOf(d)
	for _, fuse := range []int{-1, 0} {
		d.Fuse(fuse)
		for _, length := range []int{0, 1, 127, 129, 256, 4096} {
			for _, n := range []uint32{0, 8, 9, math.MaxUint32} {
				wantErr(t, "a wrong block", d.Write(n, strings.Repeat("y", length)), api.ErrArg)
			}
		}
		for _, n := range []uint32{9, 10, 1 << 20, 1 << 31, math.MaxUint32} {
			wantErr(t, "a wrong page", d.Write(n, page("y")), api.ErrFull)
		}
		wantState(t, "after errors", d, before)
	}
	wantErr(t, "the fuse", d.Write(0, page("y")), api.ErrState)
}

func TestTruncate(t *testing.T) {
	x, y := page("x"), page("y")
	tests := []struct {
		name, image string
		n           uint32
		want        string
	}{
		{"some pages", x + y + x, 1, x},
		{"all pages", x + y, 0, ""},
		{"a rest", x + y + "rest", 2, x + y},
		{"a page and a rest", x + y + "rest", 1, x},
		{"nothing but a rest", "rest", 0, ""},
		{"not a rest", x + "rest", 2, x + "rest"},
		{"not a page", x + y, 2, x + y},
		{"not beyond", x + y, 3, x + y},
		{"not at the capacity", x + "rest", 9, x + "rest"},
		{"nothing", "", 0, ""},
		{"not nothing", "", 5, ""},
	}
	for _, c := range tests {
		d := made(t, 9, c.image)
		wantErr(t, c.name, d.Truncate(c.n), api.OK)
		wantState(t, c.name, d, state{c.want, c.image, len(c.want) / 128, 1, 1})
	}
}

func TestTruncateAboveTheCapacity(t *testing.T) {
	d := made(t, 9, page("x"))
	before := stateOf(d)
	for _, fuse := range []int{-1, 0} {
		d.Fuse(fuse)
		for _, n := range []uint32{10, 11, 1 << 20, 1 << 31, math.MaxUint32} {
			wantErr(t, "a wrong number", d.Truncate(n), api.ErrArg)
		}
		wantState(t, "after errors", d, before)
	}
	wantErr(t, "the fuse", d.Truncate(9), api.ErrState)
}

func TestBytesThatWereCutOffAreZeroLater(t *testing.T) {
	d := made(t, 9, page("x")+page("x")+page("x")+"rest")
	d.Truncate(1)
	d.Write(3, page("y"))
	want := page("x") + page("\x00") + page("\x00") + page("y")
	if d.Image() != want {
		t.Errorf("%q", d.Image())
	}
	d.Sync()
	wantState(t, "Sync", d, state{want, want, 4, 0, 3})
}

func TestSync(t *testing.T) {
	d := made(t, 9, page("x")+"rest")
	wantErr(t, "Sync of nothing", d.Sync(), api.OK)
	wantState(t, "Sync of nothing", d, state{page("x") + "rest", page("x") + "rest", 1, 0, 1})
	d.Write(1, page("y"))
	d.Write(0, page("z"))
	d.Truncate(1)
	d.Write(2, page("w"))
	want := page("z") + page("\x00") + page("w")
	wantState(t, "before Sync", d, state{want, page("x") + "rest", 3, 4, 5})
	wantErr(t, "Sync", d.Sync(), api.OK)
	wantState(t, "Sync", d, state{want, want, 3, 0, 6})
	d.Write(0, page("v"))
	wantState(t, "Write after Sync", d, state{page("v") + want[128:], want, 3, 1, 7})
}

func TestFuse(t *testing.T) {
	ops := []func(*device.Device) api.Errno{
		func(d *device.Device) api.Errno { return d.Write(1, page("y")) },
		func(d *device.Device) api.Errno { return d.Truncate(1) },
		(*device.Device).Sync,
	}
	for n := range 7 {
		for first := range ops {
			d := made(t, 9, page("x"))
			d.Fuse(n)
			for i := range n {
				wantErr(t, "below the fuse", ops[(first+i)%3](d), api.OK)
			}
			before := stateOf(d)
			if before.ops != n {
				t.Errorf("fuse of %d: %d operations", n, before.ops)
			}
			for i := range 9 {
				wantErr(t, "after the fuse", ops[i%3](d), api.ErrState)
				wantState(t, "after the fuse", d, before)
			}
		}
	}
}

func TestFuseIsNotSpentByErrors(t *testing.T) {
	d := made(t, 9, page("x"))
	d.Fuse(1)
	d.Write(0, "short")
	d.Write(9, page("y"))
	d.Truncate(10)
	d.Read(0)
	d.Read(9)
	d.Image()
	if d.Ops() != 0 {
		t.Errorf("%d operations", d.Ops())
	}
	wantErr(t, "the first operation", d.Write(0, page("y")), api.OK)
	wantErr(t, "the second operation", d.Write(0, page("z")), api.ErrState)
	if s, e := d.Read(0); s != page("y") || e != api.OK {
		t.Errorf("Read after the fuse: %q %d", s, e)
	}
}

func TestFuseIsSetAgain(t *testing.T) {
	d := made(t, 9, "")
	for _, fuses := range [][]int{{0, 2}, {5, 2}, {-1, 2}, {2, 2}} {
		for _, n := range fuses {
			d.Fuse(n)
		}
		wantErr(t, "the first", d.Sync(), api.OK)
		wantErr(t, "the second", d.Sync(), api.OK)
		wantErr(t, "the third", d.Sync(), api.ErrState)
	}
	for _, n := range []int{-1, -2, -7, math.MinInt, math.MaxInt} {
		d.Fuse(0)
		d.Fuse(n)
		for range 20 {
			wantErr(t, "no fuse", d.Sync(), api.OK)
		}
	}
}

func TestOps(t *testing.T) {
	d := made(t, 9, page("x"))
	d.Write(1, page("y"))
	d.Write(1, page("y"))
	d.Truncate(9)
	d.Sync()
	d.Sync()
	d.Crash(nil)
	d.Fuse(1)
	d.Truncate(0)
	d.Truncate(0)
	d.Crash([]int{0})
	if d.Ops() != 6 {
		t.Errorf("%d operations", d.Ops())
	}
}

func TestGreatDevice(t *testing.T) {
	const last = api.MaxPages - 1
	d, e := device.New(4096, api.MaxPages, "")
	wantErr(t, "New", e, api.OK)
	block := strings.Repeat("b", 4096)
	wantErr(t, "Write", d.Write(last, block), api.OK)
	wantErr(t, "Write behind the last page", d.Write(last+1, block), api.ErrFull)
	wantErr(t, "Truncate", d.Truncate(api.MaxPages), api.OK)
	wantErr(t, "Sync", d.Sync(), api.OK)
	wantErr(t, "Crash", d.Crash(nil), api.OK)
	if s, e := d.Read(last); s != block || e != api.OK || d.Pages() != api.MaxPages {
		t.Errorf("the last page: %d bytes, %d; %d pages", len(s), e, d.Pages())
	}
	if s, e := d.Read(last - 1); s != strings.Repeat("\x00", 4096) || e != api.OK {
		t.Errorf("the page before: %d bytes, %d", len(s), e)
	}
}

// P3.3

func TestCrashKeepsSome(t *testing.T) {
	x, y, z, zero := page("x"), page("y"), page("z"), page("\x00")
	tests := []struct {
		name string
		keep []int
		want string
	}{
		{"nothing", nil, x + x + "rest"},
		{"an empty list", []int{}, x + x + "rest"},
		{"the write of page 0", []int{0}, y + x + "rest"},
		{"the truncation", []int{1}, x},
		{"the write of page 3", []int{2}, x + x + "rest" + zero[4:] + y},
		{"the second write of page 0", []int{3}, z + x + "rest"},
		{"both writes of page 0", []int{0, 3}, z + x + "rest"},
		{"both writes of page 0, listed backwards", []int{3, 0}, z + x + "rest"},
		{"all but the truncation", []int{0, 2, 3}, z + x + "rest" + zero[4:] + y},
		{"all", []int{0, 1, 2, 3}, z + zero + zero + y},
		{"all, listed backwards", []int{3, 2, 1, 0}, z + zero + zero + y},
		{"one many times", []int{1, 1, 1}, x},
		{"none that is there", []int{-1, 4, 5, math.MinInt, math.MaxInt}, x + x + "rest"},
		{"one among those that are not there", []int{-1, 4, 0, 1 << 32}, y + x + "rest"},
	}
	for _, c := range tests {
		d := made(t, 9, x+x+"rest")
		d.Write(0, y)
		d.Truncate(1)
		d.Write(3, y)
		d.Write(0, z)
		wantErr(t, c.name, d.Crash(c.keep), api.OK)
		wantState(t, c.name, d, state{c.want, c.want, len(c.want) / 128, 0, 4})
		wantErr(t, c.name, d.Crash([]int{0, 1, 2, 3}), api.OK)
		wantState(t, c.name+", and a second crash", d, state{c.want, c.want, len(c.want) / 128, 0, 4})
	}
}

func TestCrashCountsFromTheLastSync(t *testing.T) {
	d := made(t, 9, "")
	d.Write(0, page("x"))
	d.Sync()
	d.Write(1, page("y"))
	d.Write(2, page("z"))
	d.Crash([]int{0})
	if want := page("x") + page("y"); d.Image() != want || d.Durable() != want {
		t.Errorf("%q", d.Image())
	}
	d.Write(0, page("w"))
	d.Write(1, page("v"))
	d.Crash([]int{1})
	if want := page("x") + page("v"); d.Image() != want || d.Durable() != want {
		t.Errorf("after the second crash: %q", d.Image())
	}
}

func TestCrashRemovesTheFuse(t *testing.T) {
	for _, n := range []int{0, 1, 3} {
		d := made(t, 9, "")
		d.Fuse(n)
		for range n {
			d.Sync()
		}
		wantErr(t, "before", d.Sync(), api.ErrState)
		d.Crash(nil)
		for range 9 {
			wantErr(t, "after", d.Sync(), api.OK)
		}
	}
	d := made(t, 9, "")
	d.Fuse(2)
	d.Crash(nil)
	for range 9 {
		wantErr(t, "a fuse that was not spent", d.Sync(), api.OK)
	}
}

func TestCrashLeavesItsArgument(t *testing.T) {
	memory := []int{2, 0, 7, 1, -3}
	d := made(t, 9, page("x"))
	d.Write(0, page("y"))
	d.Truncate(0)
	d.Write(2, page("z"))
	d.Crash(memory[:3])
	if want := page("y") + page("\x00") + page("z"); d.Image() != want {
		t.Errorf("the spare capacity was read: %q", d.Image())
	}
	if !slices.Equal(memory, []int{2, 0, 7, 1, -3}) {
		t.Errorf("the argument was changed: %d", memory)
	}
}

func TestImageAndDurableChangeIndependently(t *testing.T) {
	d := made(t, 9, page("x")+page("x"))
	d.Write(1, page("y"))
	d.Crash([]int{0})
	kept := d.Durable()
	d.Write(0, page("z"))
	d.Truncate(1)
	d.Write(2, page("w"))
	if d.Durable() != kept {
		t.Errorf("%q", d.Durable())
	}
	d.Crash(nil)
	if d.Image() != kept {
		t.Errorf("%q", d.Image())
	}
}

// P3.4

// model is a device told a second time, on flat bytes: the image is always made anew out of the durable bytes.
type model struct {
	size, capacity, fuse, ops int
	durable                   string
	pending                   []change
}

type change struct {
	n     int
	block string // none: a truncation
}

func (c change) made(image string, size int) string {
	at := c.n * size
	if c.block == "" {
		return image[:min(at, len(image))]
	}
	image += strings.Repeat("\x00", max(0, at+size-len(image)))
	return image[:at] + c.block + image[at+size:]
}

func (m *model) image() string {
	image := m.durable
	for _, c := range m.pending {
		image = c.made(image, m.size)
	}
	return image
}

// start counts an operation. A fuse below 0 goes on falling, and never gets to 0.
func (m *model) start() bool {
	if m.fuse == 0 {
		return false
	}
	m.fuse--
	m.ops++
	return true
}

func (m *model) change(c change) api.Errno {
	if !m.start() {
		return api.ErrState
	}
	m.pending = append(m.pending, c)
	return api.OK
}

func (m *model) write(n int, block string) api.Errno {
	switch {
	case len(block) != m.size:
		return api.ErrArg
	case n >= m.capacity:
		return api.ErrFull
	}
	return m.change(change{n, block})
}

func (m *model) truncate(n int) api.Errno {
	if n > m.capacity {
		return api.ErrArg
	}
	return m.change(change{n: n})
}

func (m *model) sync() api.Errno {
	if !m.start() {
		return api.ErrState
	}
	m.durable, m.pending = m.image(), nil
	return api.OK
}

func (m *model) crash(keep []int) {
	for i, c := range m.pending {
		if slices.Contains(keep, i) {
			m.durable = c.made(m.durable, m.size)
		}
	}
	m.pending, m.fuse = nil, -1
}

// follow takes the steps that a script tells on a device and on its model, and holds them against each other after each.
func follow(t *testing.T, size, capacity int, image, script string) {
	t.Helper()
	d, e := device.New(size, capacity, image)
	wantErr(t, "New", e, api.OK)
	m := &model{size: size, capacity: capacity, fuse: -1, durable: image}
	for i := 0; i+1 < len(script) && !t.Failed(); i += 2 {
		durable := d.Durable()
		step(t, d, m, i, script[i], int(script[i+1]))
		image := m.image()
		wantState(t, "model", d, state{image, m.durable, len(image) / size, len(m.pending), m.ops})
		if kind := script[i] % 16; kind < 12 && d.Durable() != durable {
			t.Errorf("step %d, of kind %d, changed what is durable", i/2, kind)
		}
		wantPages(t, d, image)
	}
}

func step(t *testing.T, d *device.Device, m *model, i int, kind byte, n int) {
	t.Helper()
	switch kind % 16 {
	case 8, 9, 10:
		n %= m.capacity + 2
		wantErr(t, "Truncate", d.Truncate(uint32(n)), m.truncate(n))
	case 11:
		d.Fuse(n%9 - 1)
		m.fuse = n%9 - 1
	case 12, 13:
		wantErr(t, "Sync", d.Sync(), m.sync())
	case 14, 15:
		var keep []int
		for bit := range 8 {
			if n>>bit&1 == 1 {
				keep = append(keep, bit)
			}
		}
		wantErr(t, "Crash", d.Crash(keep), api.OK)
		m.crash(keep)
	default:
		n %= m.capacity + 1
		block := strings.Repeat(string([]byte{byte(i), kind}), m.size/2)
		if kind >= 200 {
			block = block[1:] // sometimes one that is too short
		}
		wantErr(t, "Write", d.Write(uint32(n), block), m.write(n, block))
	}
}

// wantPages reads each page, and one more.
func wantPages(t *testing.T, d *device.Device, image string) {
	t.Helper()
	size := d.Size()
	for n := range len(image) / size {
		if s, e := d.Read(uint32(n)); s != image[n*size:(n+1)*size] || e != api.OK {
			t.Errorf("page %d: %q %d", n, s, e)
		}
	}
	if s, e := d.Read(uint32(len(image) / size)); s != "" || e != api.ErrNone {
		t.Errorf("the page after the last: %q %d", s, e)
	}
}

// mixed returns n bytes without a short period.
func mixed(n int) string {
	b := make([]byte, n)
	x := uint32(n)
	for i := range b {
		x = x*1664525 + 1013904223
		b[i] = byte(x >> 24)
	}
	return string(b)
}

func TestOnlySyncsAndCrashesMakeDurable(t *testing.T) {
	for _, size := range []int{128, 192, 320} {
		for capacity := 2; capacity <= 7; capacity++ {
			for _, n := range []int{0, 1, size - 1, size, size + 44, 2 * size} {
				follow(t, size, capacity, mixed(n), mixed(400+8*n+2*capacity))
			}
		}
	}
}

func TestNothingIsDurableWithoutSync(t *testing.T) {
	image := page("x") + page("x") + "rest"
	d := made(t, 9, image)
	for i := range 200 {
		d.Write(uint32(i%9), page("y"))
		d.Truncate(uint32(i % 4))
		d.Write(9, page("z"))
		if d.Durable() != image {
			t.Fatalf("step %d: %q", i, d.Durable())
		}
	}
	d.Crash(nil)
	if d.Image() != image {
		t.Errorf("%q", d.Image())
	}
}

func TestEverythingIsDurableAfterSync(t *testing.T) {
	d := made(t, 9, page("x")+"rest")
	for i := range 200 {
		d.Write(uint32(i*5%9), page(string(rune('a'+i%26))))
		if i%3 == 0 {
			d.Truncate(uint32(i % 7))
		}
		want := d.Image()
		if i%2 == 0 {
			continue
		}
		d.Sync()
		d.Write(0, page("#"))
		d.Truncate(0)
		d.Crash(nil)
		if d.Image() != want || d.Durable() != want {
			t.Fatalf("step %d: %q, not %q", i, d.Image(), want)
		}
	}
}

func FuzzDevice(f *testing.F) {
	f.Add(uint8(0), uint8(3), uint16(300), "0\x04\x08\x01\x0e\x01\x0b\x02\x0c\x00")
	f.Add(uint8(1), uint8(0), uint16(0), mixed(60))
	f.Fuzz(func(t *testing.T, size, capacity uint8, n uint16, script string) {
		s, c := 128+64*int(size%4), 2+int(capacity%8)
		follow(t, s, c, mixed(int(n)%((c+1)*s)), script[:min(len(script), 400)])
	})
}
