package bank

import (
	"slices"
	"sync"
	"testing"

	"sump/api"
	"sump/geom"
	"sump/pmem"
)

// The chapter's errors and places, by their numbers.
const (
	errIO      api.Errno = 5
	errSpace   api.Errno = 28
	errCorrupt api.Errno = 74
	errArg     api.Errno = 90
	errNil     api.Errno = 91
	magic                = 0x73756d70
	greatest             = int(^uint(0) >> 1)
	all                  = ^uint64(0)
)

// small is the geom of 64 pages: banks of 256 words at 32 and 288, each a picture of 127 words 2 behind that, and a log of 127 behind it.
var small = api.Geom{Pages: 64, Bank: 8, Image: 127, Log: 127, Data: 47}

// bankAt is where bank k of a small device stands.
func bankAt(k int) int {
	if k == 1 {
		return 288
	}
	return 32
}

// draw is a row of numbers that is the same each time.
func draw(seed uint64) func(below int) int {
	x := seed*2862933555777941757 + 88172645463325252
	return func(below int) int {
		x ^= x << 13
		x ^= x >> 7
		x ^= x << 17
		return int(x >> 20 % uint64(below))
	}
}

// row is many words, none of them 0, and unlike those of another from.
func row(from, many int) []uint64 {
	l := make([]uint64, many)
	for i := range l {
		l[i] = uint64(from)<<32 + uint64(i) + 1
	}
	return l
}

// set makes words stay.
func set(d *pmem.Device, at int, l ...uint64) {
	for i, w := range l {
		d.Store(at+i, w)
		d.Flush((at + i) / 8)
	}
	d.Fence()
}

// noise is a small device whose words all stay as something.
func noise(seed uint64) *pmem.Device {
	d, next := pmem.New(2048), draw(seed)
	for i := range 2048 {
		d.Store(i, uint64(next(1<<40))<<next(24))
		d.Evict(i / 8)
	}
	return d
}

// plain is a step: 's' stores a word, 'f' flushes a line, '!' fences.
type plain struct {
	kind byte
	at   int
	word uint64
}

// plainLay is what Lay does, by the chapter's words.
func plainLay(at int, l ...uint64) []plain {
	var steps []plain
	var lines []int
	for i, w := range l {
		steps = append(steps, plain{'s', at + i, w})
		if line := (at + i) / 8; !slices.Contains(lines, line) {
			lines = append(lines, line)
		}
	}
	for _, line := range lines {
		steps = append(steps, plain{'f', line, 0})
	}
	if len(l) > 0 {
		steps = append(steps, plain{'!', 0, 0})
	}
	return steps
}

// do does steps till one fails.
func do(d *pmem.Device, steps []plain) api.Errno {
	for _, s := range steps {
		err := api.OK
		switch s.kind {
		case 's':
			err = d.Store(s.at, s.word)
		case 'f':
			err = d.Flush(s.at)
		case '!':
			err = d.Fence()
		}
		if err != api.OK {
			return err
		}
	}
	return api.OK
}

// alike holds two devices against each other, also by what is on its way: a fence tells that.
func alike(a, b *pmem.Device) bool {
	same := func(a, b *pmem.Device) bool {
		if a.Words() != b.Words() || a.Events() != b.Events() || a.Dead() != b.Dead() || !slices.Equal(a.Dirty(), b.Dirty()) {
			return false
		}
		for i := range a.Words() {
			v, _ := a.Load(i)
			w, _ := b.Load(i)
			if v != w || a.Stays(i) != b.Stays(i) {
				return false
			}
		}
		return true
	}
	if !same(a, b) || a.Dead() {
		return same(a, b)
	}
	a, b = a.Copy(), b.Copy()
	a.Fence()
	b.Fence()
	return same(a, b)
}

// expectSteps asks that a call does just these steps, wherever power fails within them.
func expectSteps(t *testing.T, d *pmem.Device, call func(d *pmem.Device) api.Errno, steps []plain) {
	t.Helper()
	for n := range len(steps) + 2 {
		one, other := d.Copy(), d.Copy()
		one.Arm(n)
		other.Arm(n)
		got, want := call(one), do(other, steps)
		if got != want || !alike(one, other) {
			t.Fatalf("power fails at %v: %v, and it must be %v, after %v", n, got, want, steps)
		}
	}
}

// expectNothing asks that a call tells this, and does nothing.
func expectNothing(t *testing.T, d *pmem.Device, call func(d *pmem.Device) api.Errno, err api.Errno) {
	t.Helper()
	one := d.Copy()
	if got := call(one); got != err || !alike(one, d) {
		t.Fatalf("%v, and it must be %v, with nothing done", got, err)
	}
}

// P11.1

func TestLay(t *testing.T) {
	for at := range 40 {
		for many := range 20 {
			l := row(at+1, many)
			lay := func(d *pmem.Device) api.Errno { return Lay(d, at, l) }
			expectSteps(t, pmem.New(64), lay, plainLay(at, l...))
		}
	}
	expectSteps(t, noise(1), func(d *pmem.Device) api.Errno { return Lay(d, 5, row(9, 100)) }, plainLay(5, row(9, 100)...))
}

func TestLayStays(t *testing.T) {
	d := pmem.New(2048)
	if err := Lay(d, 13, row(1, 300)); err != api.OK || len(d.Dirty()) != 0 || d.Events() != 300+39+1 {
		t.Errorf("Lay: %v, dirty %v, %v events", err, d.Dirty(), d.Events())
	}
	d.Crash(nil)
	for i, w := range row(1, 300) {
		if d.Stays(13+i) != w {
			t.Fatalf("word %v stays as %v", 13+i, d.Stays(13+i))
		}
	}
	if d.Stays(12) != 0 || d.Stays(313) != 0 {
		t.Errorf("beside it: %v and %v", d.Stays(12), d.Stays(313))
	}
}

// What was on its way stays with the Fence; what is dirty in other lines is left as it is.
func TestLayBesideWhatIsDirty(t *testing.T) {
	d := noise(2)
	d.Store(3, 1)
	d.Flush(0)
	d.Store(20, 2)
	d.Store(40, 3)
	expectSteps(t, d, func(d *pmem.Device) api.Errno { return Lay(d, 21, row(1, 2)) }, plainLay(21, row(1, 2)...))
	Lay(d, 21, row(1, 2))
	if d.Stays(3) != 1 || d.Stays(20) != 2 || !slices.Equal(d.Dirty(), []int{40}) {
		t.Errorf("%v, %v, dirty %v", d.Stays(3), d.Stays(20), d.Dirty())
	}
}

func TestLayOfNoWords(t *testing.T) {
	for _, at := range []int{0, 3, 63, 64, -1, greatest, -greatest - 1} {
		for _, l := range [][]uint64{nil, {}} {
			lay := func(d *pmem.Device) api.Errno { return Lay(d, at, l) }
			expectNothing(t, noise(3), lay, api.OK)
			expectNothing(t, pmem.New(0), lay, api.OK)
			armed := pmem.New(64)
			armed.Store(1, 1)
			armed.Arm(1)
			expectNothing(t, armed, lay, api.OK)
			armed.Fence()
			expectNothing(t, armed, lay, api.OK)
		}
	}
}

func TestLayWhereNoWordsAre(t *testing.T) {
	for _, at := range []int{-1, -2, -8, -greatest - 1, 60, 62, 63, 64, 65, 1 << 40, greatest - 1, greatest} {
		l := row(1, 5)
		lay := func(d *pmem.Device) api.Errno { return Lay(d, at, l) }
		expectSteps(t, pmem.New(64), lay, plainLay(at, l...))
		if err := lay(pmem.New(64)); err != errArg {
			t.Errorf("Lay at %v: %v", at, err)
		}
	}
	short := func(d *pmem.Device) api.Errno { return Lay(d, 7, row(1, 4)) }
	expectSteps(t, pmem.New(11), short, plainLay(7, row(1, 4)...))
	expectSteps(t, pmem.New(10), short, plainLay(7, row(1, 4)...))
	expectNothing(t, pmem.New(0), short, errArg)
}

func TestLayOfADeadDevice(t *testing.T) {
	d := dead(noise(4))
	expectNothing(t, d, func(d *pmem.Device) api.Errno { return Lay(d, 0, row(1, 1)) }, errIO)
	expectNothing(t, d, func(d *pmem.Device) api.Errno { return Lay(d, -1, row(1, 1)) }, errIO)
}

// dead is d, without power.
func dead(d *pmem.Device) *pmem.Device {
	d.Arm(1)
	d.Fence()
	return d
}

func TestFormat(t *testing.T) {
	for _, pages := range []int{64, 65, 100, 1 << 20} {
		g, _ := geom.Of(pages)
		format := func(d *pmem.Device) api.Errno { return Format(d, g) }
		expectSteps(t, noise(5), format, plainLay(0, magic, uint64(pages)))
		expectSteps(t, pmem.New(1), format, plainLay(0, magic, uint64(pages)))
		expectNothing(t, pmem.New(0), format, errArg)
		expectNothing(t, dead(noise(5)), format, errIO)
	}
}

func expectFind(t *testing.T, d *pmem.Device, g api.Geom, err api.Errno) {
	t.Helper()
	was := d.Copy()
	if got, gotErr := Find(d); got != g || gotErr != err || !alike(d, was) {
		t.Errorf("Find = %v, %v; it must be %v, %v", got, gotErr, g, err)
	}
}

func TestFind(t *testing.T) {
	for pages := 64; pages < 200; pages++ {
		g, _ := geom.Of(pages)
		d := pmem.New(32 * pages)
		expectFind(t, d, api.Geom{}, errCorrupt)
		Format(d, g)
		expectFind(t, d, g, api.OK)
		set(d, 2, all, all)
		expectFind(t, d, g, api.OK)
	}
	d := pmem.New(2048)
	d.Store(0, 1937075568)
	d.Store(1, 64)
	expectFind(t, d, small, api.OK)
	great := pmem.New(1 << 25)
	set(great, 0, magic, 1<<20)
	if g, err := Find(great); g.Pages != 1<<20 || g.Bank != 1<<17 || err != api.OK {
		t.Errorf("Find of the greatest: %v, %v", g, err)
	}
}

func TestFindOfNone(t *testing.T) {
	for _, head := range [][]uint64{
		{magic - 1, 64}, {magic + 1, 64}, {0, 64}, {1<<63 + magic, 64}, {1<<32 + magic, 64}, {all, 64},
		{64, magic}, {magic, magic}, {64, 64},
		{magic, 0}, {magic, 1}, {magic, 63}, {magic, 65}, {magic, 32}, {magic, 2048},
		{magic, 1 << 20}, {magic, 1<<20 + 1}, {magic, 1<<32 + 64}, {magic, 1<<63 + 64}, {magic, 1 << 63}, {magic, all}, {magic, all - 63},
	} {
		d := pmem.New(2048)
		set(d, 0, head...)
		expectFind(t, d, api.Geom{}, errCorrupt)
	}
	for _, words := range []int{2, 3, 2016, 2047, 2049, 2056, 2079, 2080, 4096} {
		d := pmem.New(words)
		set(d, 0, magic, 64)
		expectFind(t, d, api.Geom{}, errCorrupt)
	}
	// 63 pages are too few, whatever stands there.
	d := pmem.New(63 * 32)
	set(d, 0, magic, 63)
	expectFind(t, d, api.Geom{}, errCorrupt)
}

func TestFindTellsTheDevicesErrors(t *testing.T) {
	expectFind(t, pmem.New(0), api.Geom{}, errArg)
	one := pmem.New(1)
	expectFind(t, one, api.Geom{}, errArg)
	set(one, 0, magic)
	expectFind(t, one, api.Geom{}, errArg)
	d := pmem.New(2048)
	Format(d, small)
	expectFind(t, dead(d), api.Geom{}, errIO)
}

// P11.2

func TestMake(t *testing.T) {
	for _, k := range []int{0, 1, 2, -1, greatest} {
		for _, many := range []int{0, 1, 6, 7, 8, 126, 127} {
			l := row(many, many)
			call := func(d *pmem.Device) api.Errno { return Make(d, small, k, l) }
			steps := append(plainLay(bankAt(k)+2, l...), plainLay(bankAt(k), 0, uint64(many))...)
			expectSteps(t, noise(6), call, steps)
		}
	}
}

func TestMakeOfTooMuch(t *testing.T) {
	for _, k := range []int{0, 1} {
		for _, many := range []int{128, 129, 254, 5000} {
			call := func(d *pmem.Device) api.Errno { return Make(d, small, k, row(1, many)) }
			expectNothing(t, noise(7), call, errSpace)
			expectNothing(t, pmem.New(0), call, errSpace)
			expectNothing(t, dead(noise(7)), call, errSpace)
		}
	}
}

func TestMakeTellsTheDevicesErrors(t *testing.T) {
	call := func(k, many int) func(d *pmem.Device) api.Errno {
		return func(d *pmem.Device) api.Errno { return Make(d, small, k, row(1, many)) }
	}
	expectNothing(t, dead(noise(8)), call(0, 3), errIO)
	expectNothing(t, dead(noise(8)), call(0, 0), errIO)
	expectNothing(t, pmem.New(32), call(0, 0), errArg)
	expectNothing(t, pmem.New(34), call(0, 1), errArg)
	expectSteps(t, pmem.New(36), call(0, 3), plainLay(34, row(1, 3)...))
	expectSteps(t, pmem.New(33), call(0, 0), plainLay(32, 0, 0))
}

// content is what Read tells.
type content struct {
	image, log []uint64
	err        api.Errno
}

func read(d *pmem.Device, g api.Geom, k int) content {
	image, log, err := Read(d, g, k)
	return content{image, log, err}
}

func (c content) is(o content) bool {
	return slices.Equal(c.image, o.image) && slices.Equal(c.log, o.log) && c.err == o.err
}

func expectRead(t *testing.T, d *pmem.Device, g api.Geom, k int, want content) {
	t.Helper()
	was := d.Copy()
	if got := read(d, g, k); !got.is(want) || !alike(d, was) {
		t.Fatalf("Read of %v = %v; it must be %v", k, got, want)
	}
	free, err := Free(d, g, k)
	if err != want.err || !alike(d, was) || err == api.OK && free != g.Log-len(want.log) || err != api.OK && free != 0 {
		t.Fatalf("Free of %v = %v, %v; the log is %v, %v", k, free, err, want.log, want.err)
	}
}

func TestReadOfANewDevice(t *testing.T) {
	expectRead(t, pmem.New(2048), small, 0, content{})
	expectRead(t, pmem.New(2048), small, 1, content{})
}

func TestReadOfEachCount(t *testing.T) {
	for _, k := range []int{0, 1} {
		d := noise(9)
		at := bankAt(k)
		set(d, at+2, row(1, 127)...)
		set(d, at+129, row(2, 127)...)
		for tail := range uint64(130) {
			for _, image := range []uint64{0, 1, 63, 126, 127, 128, 129, all} {
				d.Store(at, tail)
				d.Store(at+1, image)
				want := content{err: errCorrupt}
				if tail <= 127 && image <= 127 {
					want = content{row(1, int(image)), row(2, int(tail)), api.OK}
				}
				expectRead(t, d, small, k, want)
			}
		}
	}
}

func TestReadOfWhatCanNotBe(t *testing.T) {
	d := noise(10)
	for _, great := range []uint64{128, 129, 254, 1 << 31, 1 << 32, 1<<32 + 1, 1 << 62, 1 << 63, 1<<63 + 1, all, all - 126} {
		for _, k := range []int{0, 1} {
			for _, head := range [][]uint64{{great, 0}, {great, 127}, {0, great}, {127, great}, {great, great}} {
				set(d, bankAt(k), head...)
				expectRead(t, d, small, k, content{err: errCorrupt})
				expectNothing(t, d, func(d *pmem.Device) api.Errno { return Append(d, small, k, row(1, 1)) }, errCorrupt)
				expectNothing(t, d, func(d *pmem.Device) api.Errno { return Append(d, small, k, nil) }, errCorrupt)
				expectNothing(t, d, func(d *pmem.Device) api.Errno { return Append(d, small, k, row(1, 128)) }, errCorrupt)
			}
		}
	}
}

// A bank of 65 pages has a picture of 127 words and a log of 127, one of 72 pages of 143 each: what a geom says goes, not what another would.
func TestReadGoesByItsGeom(t *testing.T) {
	g, _ := geom.Of(72)
	d := pmem.New(72 * 32)
	Make(d, g, 1, row(1, 143))
	Append(d, g, 1, row(2, 143))
	expectRead(t, d, g, 1, content{row(1, 143), row(2, 143), api.OK})
	if w, _ := d.Load(32*10 + 2); w != row(1, 1)[0] {
		t.Errorf("the picture begins with %v", w)
	}
	if w, _ := d.Load(32*10 + 2 + 143); w != row(2, 1)[0] {
		t.Errorf("the log begins with %v", w)
	}
	if err := Make(d, g, 1, row(1, 144)); err != errSpace {
		t.Errorf("Make of one word too many: %v", err)
	}
}

func TestReadTellsTheDevicesErrors(t *testing.T) {
	for words := range 300 {
		d := pmem.New(words)
		set(d, 32, 20)
		set(d, 33, 3)
		want := content{make([]uint64, 3), make([]uint64, 20), api.OK}
		if words < 32+129+20 {
			want = content{err: errArg}
		}
		expectRead(t, d, small, 0, want)
		expectRead(t, dead(d), small, 0, content{err: errIO})
	}
	d := pmem.New(40)
	set(d, 32, 0, 6)
	expectRead(t, d, small, 0, content{image: make([]uint64, 6)})
	set(d, 33, 7)
	expectRead(t, d, small, 0, content{err: errArg})
	expectRead(t, pmem.New(33), small, 0, content{err: errArg})
	expectRead(t, pmem.New(288), small, 1, content{err: errArg})
}

// The device's errors come ahead of what is told by words that are there.
func TestReadOfHalfAHead(t *testing.T) {
	d := pmem.New(33)
	set(d, 32, all)
	expectRead(t, d, small, 0, content{err: errArg})
}

func TestAppend(t *testing.T) {
	for _, k := range []int{0, 1, 7} {
		d := noise(11)
		Make(d, small, k, row(1, 20))
		tail := 0
		for i, many := range []int{1, 0, 7, 8, 30, 0, 81} {
			l := row(i+2, many)
			call := func(d *pmem.Device) api.Errno { return Append(d, small, k, l) }
			steps := append(plainLay(bankAt(k)+129+tail, l...), plainLay(bankAt(k), uint64(tail+many))...)
			expectSteps(t, d, call, steps)
			call(d)
			tail += many
		}
		expectNothing(t, d, func(d *pmem.Device) api.Errno { return Append(d, small, k, row(1, 1)) }, errSpace)
	}
}

func TestAppendOfTooMuch(t *testing.T) {
	for tail := range 128 {
		d := noise(12)
		Make(d, small, 0, row(1, 5))
		Append(d, small, 0, row(2, tail))
		for _, more := range []int{1, 2, 200} {
			call := func(d *pmem.Device) api.Errno { return Append(d, small, 0, row(3, 127-tail+more)) }
			expectNothing(t, d, call, errSpace)
			// A Dead device tells its error first: it is Free's.
			expectNothing(t, dead(d.Copy()), call, errIO)
		}
		if err := Append(d, small, 0, row(3, 127-tail)); err != api.OK {
			t.Fatalf("Append of all that is left: %v", err)
		}
		expectRead(t, d, small, 0, content{row(1, 5), append(row(2, tail), row(3, 127-tail)...), api.OK})
	}
}

// By the example.
func TestMakeAppendRead(t *testing.T) {
	d := pmem.New(2048)
	if err := Make(d, small, 0, []uint64{1, 2, 3}); err != api.OK {
		t.Error(err)
	}
	if err := Append(d, small, 0, []uint64{4, 5}); err != api.OK {
		t.Error(err)
	}
	expectRead(t, d, small, 0, content{[]uint64{1, 2, 3}, []uint64{4, 5}, api.OK})
	Append(d, small, 0, []uint64{6})
	d.Crash(nil)
	expectRead(t, d, small, 0, content{[]uint64{1, 2, 3}, []uint64{4, 5, 6}, api.OK})
	Make(d, small, 0, []uint64{7})
	expectRead(t, d, small, 0, content{[]uint64{7}, nil, api.OK})
}

// banks is the plain thing that a device's two banks are.
type banks [2]content

func TestBanksInALongRow(t *testing.T) {
	next := draw(13)
	d := pmem.New(2048)
	Format(d, small)
	var is banks
	for n := range 4000 {
		k := next(2)
		l := row(n, next(40))
		switch want := is[k]; {
		case next(12) == 0:
			l = row(n, next(140))
			if err := Make(d, small, k, l); (err == api.OK) != (len(l) <= 127) {
				t.Fatalf("Make of %v words: %v", len(l), err)
			}
			if len(l) <= 127 {
				is[k] = content{image: l}
			}
		case len(want.log)+len(l) > 127:
			expectNothing(t, d, func(d *pmem.Device) api.Errno { return Append(d, small, k, l) }, errSpace)
		default:
			if err := Append(d, small, k, l); err != api.OK {
				t.Fatalf("Append of %v words: %v", len(l), err)
			}
			is[k].log = append(slices.Clone(want.log), l...)
		}
		if next(5) == 0 {
			d.Crash(nil)
		}
		expectRead(t, d, small, 0, is[0])
		expectRead(t, d, small, 1, is[1])
	}
	if g, err := Find(d); g != small || err != api.OK {
		t.Errorf("Find: %v, %v", g, err)
	}
}

// P11.3

func TestSwitch(t *testing.T) {
	for _, c := range []struct {
		epoch, k int
		root     uint64
	}{
		{0, 0, 0}, {0, 1, 1}, {1, 0, 2}, {1, 1, 3}, {5, 1, 11}, {5, 2, 10}, {5, -1, 10},
		{1 << 40, 0, 1 << 41}, {1 << 40, 1, 1<<41 + 1}, {1<<40 + 1, 1, 1}, {-1, 0, 0}, {-1, 1, 1}, {greatest, 1, 1},
	} {
		call := func(d *pmem.Device) api.Errno { return Switch(d, c.epoch, c.k) }
		expectSteps(t, noise(14), call, plainLay(2, c.root))
		expectNothing(t, dead(noise(14)), call, errIO)
		expectNothing(t, pmem.New(2), call, errArg)
		expectSteps(t, pmem.New(3), call, plainLay(2, c.root))
	}
}

func expectRoot(t *testing.T, d *pmem.Device, epoch, k int, err api.Errno) {
	t.Helper()
	was := d.Copy()
	gotEpoch, gotK, gotErr := Root(d)
	if gotEpoch != epoch || gotK != k || gotErr != err || !alike(d, was) {
		t.Errorf("Root = %v, %v, %v; it must be %v, %v, %v", gotEpoch, gotK, gotErr, epoch, k, err)
	}
}

func TestRoot(t *testing.T) {
	expectRoot(t, pmem.New(2048), 0, 0, api.OK)
	d := noise(15)
	for epoch := range 50 {
		for k := range 2 {
			Switch(d, epoch, k)
			expectRoot(t, d, epoch, k, api.OK)
		}
	}
	Switch(d, 1<<40, 1)
	expectRoot(t, d, 1<<40, 1, api.OK)
	for _, root := range []uint64{1<<41 + 2, 1<<41 + 3, 1 << 42, 1 << 63, 1<<63 + 1, all} {
		d.Store(2, root)
		expectRoot(t, d, 0, 0, errCorrupt)
	}
}

func TestRootTellsTheDevicesErrors(t *testing.T) {
	expectRoot(t, pmem.New(0), 0, 0, errArg)
	expectRoot(t, pmem.New(2), 0, 0, errArg)
	expectRoot(t, pmem.New(3), 0, 0, api.OK)
	expectRoot(t, dead(noise(16)), 0, 0, errIO)
}

// A Switch is whole or not at all.
func TestSwitchWhenPowerFails(t *testing.T) {
	for n := 1; n <= 4; n++ {
		for _, keep := range [][]bool{nil, {true}} {
			d := pmem.New(2048)
			Switch(d, 7, 0)
			d.Arm(n)
			err := Switch(d, 8, 1)
			d.Crash(keep)
			epoch, k, _ := Root(d)
			was, is := epoch == 7 && k == 0, epoch == 8 && k == 1
			if !was && !is || err == api.OK && !is || (err == api.OK) != (n == 4) {
				t.Errorf("power fails at %v: %v, %v; %v", n, epoch, k, err)
			}
		}
	}
}

func TestDevicesThatNobodyMade(t *testing.T) {
	for _, d := range []*pmem.Device{nil, {}} {
		for _, l := range [][]uint64{nil, {}, row(1, 1), row(1, 127), row(1, 128), row(1, 5000)} {
			for _, k := range []int{-1, 0, 1, 2} {
				image, log, err := Read(d, small, k)
				free, freeErr := Free(d, small, k)
				if len(image)+len(log)+free != 0 || err != errNil || freeErr != errNil {
					t.Errorf("Read and Free: %v, %v, %v; %v, %v", image, log, err, free, freeErr)
				}
				for _, err := range []api.Errno{Make(d, small, k, l), Append(d, small, k, l), Lay(d, k, l), Switch(d, 5, k), Format(d, small)} {
					if err != errNil {
						t.Errorf("of %v words: %v", len(l), err)
					}
				}
			}
		}
		if g, err := Find(d); g != (api.Geom{}) || err != errNil {
			t.Errorf("Find: %v, %v", g, err)
		}
		if epoch, k, err := Root(d); epoch != 0 || k != 0 || err != errNil {
			t.Errorf("Root: %v, %v, %v", epoch, k, err)
		}
	}
}

// P11.4

// crashes asks for what is there after each crash at each step of an Append, whatever is kept of up to 2^12 choices.
func crashes(t *testing.T, d *pmem.Device, g api.Geom, k int, l []uint64) {
	t.Helper()
	before := read(d, g, k)
	after := content{before.image, append(slices.Clone(before.log), l...), api.OK}
	other := read(d, g, 1-k)
	for n := 1; ; n++ {
		cut := d.Copy()
		cut.Arm(n)
		if err := Append(cut, g, k, l); err == api.OK {
			cut.Crash(nil)
			expectRead(t, cut, g, k, after)
			return
		} else if err != errIO {
			t.Fatalf("Append: %v", err)
		}
		for choice := range choices(len(cut.Dirty())) {
			left := cut.Copy()
			left.Crash(keep(choice, len(cut.Dirty())))
			if got := read(left, g, k); !got.is(before) && !got.is(after) {
				t.Fatalf("power fails at %v, of choice %v: %v", n, choice, got)
			}
			if got := read(left, g, 1-k); !got.is(other) {
				t.Fatalf("power fails at %v: the other bank is %v", n, got)
			}
		}
	}
}

// choices are as many as many words can be kept in; of very many, some.
func choices(many int) int { return 1 << min(many, 6) }

// keep is one choice. Of many words, some are kept as those 6 places ahead are.
func keep(choice, many int) []bool {
	l := make([]bool, many)
	for i := range l {
		l[i] = choice>>(i%6)&1 == 1
	}
	return l
}

func TestAllOrNothing(t *testing.T) {
	for _, k := range []int{0, 1} {
		for tail := range 12 {
			for many := range 11 {
				d := noise(uint64(20 + tail))
				Make(d, small, 1-k, row(4, 3))
				Append(d, small, 1-k, row(5, 6))
				Make(d, small, k, row(1, 9))
				Append(d, small, k, row(2, tail))
				crashes(t, d, small, k, row(3, many))
			}
		}
	}
}

func TestAllOrNothingOfAFullLog(t *testing.T) {
	d := noise(17)
	Make(d, small, 1, row(1, 127))
	Make(d, small, 0, row(2, 127))
	crashes(t, d, small, 0, row(3, 127))
	Append(d, small, 0, row(3, 100))
	crashes(t, d, small, 0, row(4, 27))
	crashes(t, d, small, 0, nil)
}

// An Append that was cut off leaves no trace in the next one.
func TestAppendBehindACrash(t *testing.T) {
	next := draw(18)
	d := pmem.New(2048)
	Make(d, small, 0, row(1, 4))
	log := []uint64{}
	for n := range 2000 {
		l := row(n+2, next(12))
		d.Arm(next(30))
		err := Append(d, small, 0, l)
		if err == errSpace {
			d.Crash(nil)
			Make(d, small, 0, row(1, 4))
			log = nil
			continue
		}
		d.Crash(keep(next(64), len(d.Dirty())))
		got := read(d, small, 0)
		longer := append(slices.Clone(log), l...)
		if err == api.OK && !slices.Equal(got.log, longer) || !slices.Equal(got.log, log) && !slices.Equal(got.log, longer) {
			t.Fatalf("%v: the log is %v; it was %v, and %v came", err, got.log, log, l)
		}
		log = got.log
	}
}

// Rules that hold everywhere

// Of geoms that geom.Of doesn't tell nothing is said, but that the calls end.
func TestGeomsThatCanNotBe(t *testing.T) {
	numbers := []int{0, 1, -1, 8, -8, 64, 127, 1 << 20, 1 << 58, -1 << 58, 1 << 62, greatest, -greatest - 1}
	for _, bank := range numbers {
		for _, image := range numbers {
			for _, log := range numbers {
				g := api.Geom{Pages: bank, Bank: bank, Image: image, Log: log, Data: log}
				for _, head := range []uint64{0, 1, 127, 1 << 62, all >> 1, 1 << 63, all} {
					d := pmem.New(100)
					set(d, 0, head, head)
					set(d, 32, head, head, head, head, head)
					for k := range 2 {
						Read(d, g, k)
						Free(d, g, k)
						Append(d, g, k, row(1, 3))
						Make(d, g, k, row(1, 3))
					}
					Format(d, g)
				}
			}
		}
	}
}

func TestArgumentsStayAsTheyAre(t *testing.T) {
	whole := row(1, 60)
	was := slices.Clone(whole)
	d := pmem.New(2048)
	for _, n := range []int{0, 1, 30, 60} {
		Make(d, small, 0, whole[:n])
		Append(d, small, 0, whole[:n])
		Lay(d, 600, whole[:n])
		if !slices.Equal(whole, was) {
			t.Fatalf("the words have become %v", whole)
		}
		expectRead(t, d, small, 0, content{was[:n], was[:n], api.OK})
		if w, _ := d.Load(600 + n); w != 0 {
			t.Errorf("behind %v words stands %v", n, w)
		}
	}
}

func TestAnswersShareNothing(t *testing.T) {
	d := pmem.New(2048)
	image, log := row(1, 20), row(2, 20)
	Make(d, small, 0, image)
	Append(d, small, 0, log)
	clear(image)
	clear(log)
	one, other := read(d, small, 0), read(d, small, 0)
	clear(one.image[:cap(one.image)])
	clear(one.log[:cap(one.log)])
	want := content{row(1, 20), row(2, 20), api.OK}
	if !other.is(want) || !read(d, small, 0).is(want) {
		t.Errorf("it is %v, and was %v", read(d, small, 0), other)
	}
}

func TestDevicesGoTheirOwnWays(t *testing.T) {
	var wait sync.WaitGroup
	for n := range 8 {
		wait.Go(func() {
			d := pmem.New(2048)
			for i := range 30 {
				Make(d, small, i%2, row(n, 10))
				Append(d, small, i%2, row(n+1, i))
				want := content{row(n, 10), row(n+1, i), api.OK}
				if got := read(d, small, i%2); !got.is(want) {
					t.Errorf("%v: %v", n, got)
				}
			}
		})
	}
	wait.Wait()
}
