package pmem

import (
	"math"
	"slices"
	"testing"

	"sump/api"
)

const (
	ok  = api.OK
	io  = api.ErrIO
	arg = api.ErrArg
)

// noWords are places that a device of n words doesn't have.
func noWords(n int) []int {
	return []int{-1, -8, n, n + 1, n + 1000, math.MinInt, math.MaxInt}
}

// noLines are lines that a device of n words doesn't have; the first words of some would wrap round to those of lines that it has.
func noLines(n int) []int {
	const wrap = 1 << 61
	lines := (n + 7) / 8
	return []int{-1, -2, lines, lines + 1, n + 1, wrap, wrap + 1, -wrap, 3 * wrap, math.MinInt, math.MaxInt}
}

// load is what all words hold, where none may have an error.
func load(t *testing.T, d *Device) []uint64 {
	t.Helper()
	l := make([]uint64, d.Words())
	for i := range l {
		v, err := d.Load(i)
		if err != ok {
			t.Fatalf("Load(%d): %d", i, err)
		}
		l[i] = v
	}
	return l
}

func stays(d *Device) []uint64 {
	l := make([]uint64, d.Words())
	for i := range l {
		l[i] = d.Stays(i)
	}
	return l
}

// store, flush and fence are for where no error may be.
func store(t *testing.T, d *Device, i int, v uint64) {
	t.Helper()
	if err := d.Store(i, v); err != ok {
		t.Fatalf("Store(%d, %d): %d", i, v, err)
	}
}

func flush(t *testing.T, d *Device, line int) {
	t.Helper()
	if err := d.Flush(line); err != ok {
		t.Fatalf("Flush(%d): %d", line, err)
	}
}

func fence(t *testing.T, d *Device) {
	t.Helper()
	if err := d.Fence(); err != ok {
		t.Fatalf("Fence: %d", err)
	}
}

// expect holds a word against what it should hold, stay as, and whether it should be dirty.
func expect(t *testing.T, d *Device, i int, holds, stay uint64, dirty bool) {
	t.Helper()
	if v, err := d.Load(i); v != holds || err != ok {
		t.Errorf("word %d: Load = %d, %d, want %d", i, v, err, holds)
	}
	if v := d.Stays(i); v != stay {
		t.Errorf("word %d: Stays = %d, want %d", i, v, stay)
	}
	if is := slices.Contains(d.Dirty(), i); is != dirty {
		t.Errorf("word %d: dirty %v, want %v", i, is, dirty)
	}
}

// P4.1

func TestNewHasWordsThatAreNought(t *testing.T) {
	for _, c := range [][2]int{{0, 0}, {1, 1}, {7, 7}, {8, 8}, {9, 9}, {2048, 2048}, {-1, 0}, {-2048, 0}, {math.MinInt, 0}} {
		d := New(c[0])
		if d.Words() != c[1] {
			t.Errorf("New(%d) has %d words", c[0], d.Words())
		}
		for i, v := range load(t, d) {
			if v != 0 || d.Stays(i) != 0 {
				t.Errorf("New(%d): word %d is %d, stays as %d", c[0], i, v, d.Stays(i))
			}
		}
		if len(d.Dirty()) != 0 || d.Events() != 0 || d.Dead() {
			t.Errorf("New(%d): dirty %v, %d events, dead %v", c[0], d.Dirty(), d.Events(), d.Dead())
		}
	}
}

func TestNewOfTheMostWords(t *testing.T) {
	const most = 1 << 25
	for _, n := range []int{most - 1, most, most + 1, math.MaxInt} {
		want := min(n, most)
		d := New(n)
		if d.Words() != want {
			t.Errorf("New(%d) has %d words", n, d.Words())
		}
		store(t, d, want-1, 5)
		flush(t, d, most/8-1)
		fence(t, d)
		expect(t, d, want-1, 5, 5, false)
		if err := d.Store(want, 5); err != arg {
			t.Errorf("New(%d): Store behind the end: %d", n, err)
		}
		if err := d.Flush(most / 8); err != arg {
			t.Errorf("New(%d): Flush behind the end: %d", n, err)
		}
	}
}

func TestLoadTellsWhatWasStoredLast(t *testing.T) {
	d := New(20)
	for _, v := range []uint64{1, 7, math.MaxUint64, 1 << 63, 0, 9} {
		for _, i := range []int{0, 7, 8, 19} {
			store(t, d, i, v+uint64(i))
			if got, err := d.Load(i); got != v+uint64(i) || err != ok {
				t.Errorf("Load(%d) = %d, %d", i, got, err)
			}
		}
	}
	for i, v := range load(t, d) {
		if slices.Contains([]int{0, 7, 8, 19}, i) != (v != 0) {
			t.Errorf("word %d is %d", i, v)
		}
	}
}

func TestWordsAndLinesThatAreNot(t *testing.T) {
	for _, n := range []int{0, 1, 8, 9, 20} {
		d := New(n)
		for i := range n {
			store(t, d, i, 3)
		}
		events := d.Events()
		for _, i := range noWords(n) {
			if v, err := d.Load(i); v != 0 || err != arg {
				t.Errorf("%d words: Load(%d) = %d, %d", n, i, v, err)
			}
			if err := d.Store(i, 5); err != arg {
				t.Errorf("%d words: Store(%d): %d", n, i, err)
			}
			if v := d.Stays(i); v != 0 {
				t.Errorf("%d words: Stays(%d) = %d", n, i, v)
			}
		}
		for _, line := range noLines(n) {
			if err := d.Flush(line); err != arg {
				t.Errorf("%d words: Flush(%d): %d", n, line, err)
			}
			if d.Evict(line) {
				t.Errorf("%d words: Evict(%d)", n, line)
			}
		}
		if len(d.Dirty()) != n || d.Events() != events {
			t.Errorf("%d words: dirty %v, %d events", n, d.Dirty(), d.Events())
		}
		fence(t, d)
		if slices.Max(append(stays(d), 0)) != 0 {
			t.Errorf("%d words: %v stays", n, stays(d))
		}
	}
}

func TestStoreIsDirtyUnlessItStaysSo(t *testing.T) {
	d := New(8)
	store(t, d, 2, 0)
	expect(t, d, 2, 0, 0, false)
	store(t, d, 2, 6)
	expect(t, d, 2, 6, 0, true)
	store(t, d, 2, 6)
	expect(t, d, 2, 6, 0, true)
	store(t, d, 2, 0)
	expect(t, d, 2, 0, 0, false)
	store(t, d, 2, 6)
	flush(t, d, 0)
	store(t, d, 2, 0) // stays so, but 6 is on its way
	expect(t, d, 2, 0, 0, true)
	fence(t, d)
	expect(t, d, 2, 0, 6, true)
	store(t, d, 2, 6)
	expect(t, d, 2, 6, 6, false)
}

func TestFlushAndFencePersistTogether(t *testing.T) {
	d := New(8)
	store(t, d, 1, 4)
	fence(t, d) // nothing is on its way
	expect(t, d, 1, 4, 0, true)
	flush(t, d, 0)
	expect(t, d, 1, 4, 0, true)
	fence(t, d)
	expect(t, d, 1, 4, 4, false)
}

func TestFlushSendsWhatItsLineHoldsNow(t *testing.T) {
	d := New(20)
	for _, i := range []int{0, 7, 8, 15, 16, 19} {
		store(t, d, i, 5)
	}
	flush(t, d, 1)
	store(t, d, 9, 5) // too late
	fence(t, d)
	for i, stay := range map[int]uint64{0: 0, 7: 0, 8: 5, 9: 0, 15: 5, 16: 0, 19: 0} {
		expect(t, d, i, 5, stay, stay == 0)
	}
	flush(t, d, 2) // the last line is short
	flush(t, d, 0)
	fence(t, d)
	for i, stay := range map[int]uint64{0: 5, 7: 5, 9: 0, 16: 5, 19: 5} {
		expect(t, d, i, 5, stay, stay == 0)
	}
}

func TestFencePersistsTheLastThatWasSent(t *testing.T) {
	d := New(8)
	store(t, d, 3, 1)
	flush(t, d, 0)
	store(t, d, 3, 2)
	flush(t, d, 0)
	store(t, d, 3, 7)
	fence(t, d)
	expect(t, d, 3, 7, 2, true)
	fence(t, d) // nothing is on its way any more
	expect(t, d, 3, 7, 2, true)
	flush(t, d, 0)
	fence(t, d)
	expect(t, d, 3, 7, 7, false)
	store(t, d, 3, 9)
	fence(t, d)
	expect(t, d, 3, 9, 7, true)
}

func TestFlushOfWhatWasStoredBackSendsItToo(t *testing.T) {
	d := New(8)
	store(t, d, 3, 1)
	flush(t, d, 0)
	store(t, d, 3, 0)
	flush(t, d, 0) // 0 stays, but is on its way now, in the place of 1
	expect(t, d, 3, 0, 0, true)
	fence(t, d)
	expect(t, d, 3, 0, 0, false)
}

func TestFlushOfWhatIsNotDirtySendsNothing(t *testing.T) {
	d := New(8)
	flush(t, d, 0)
	store(t, d, 3, 1)
	fence(t, d)
	expect(t, d, 3, 1, 0, true)
}

// P4.2

func TestEvictPersistsItsLine(t *testing.T) {
	d := New(20)
	for _, i := range []int{7, 8, 15, 16, 19} {
		store(t, d, i, 5)
	}
	if !d.Evict(1) {
		t.Error("line 1 was dirty")
	}
	for i, stay := range map[int]uint64{7: 0, 8: 5, 15: 5, 16: 0, 19: 0} {
		expect(t, d, i, 5, stay, stay == 0)
	}
	if d.Evict(1) {
		t.Error("line 1 isn't dirty any more")
	}
	if !d.Evict(2) || d.Evict(2) {
		t.Error("line 2, the short one")
	}
	if !slices.Equal(d.Dirty(), []int{7}) {
		t.Errorf("dirty %v", d.Dirty())
	}
}

func TestEvictTakesWhatIsOnItsWay(t *testing.T) {
	d := New(16)
	store(t, d, 3, 1)
	store(t, d, 8, 1)
	flush(t, d, 0)
	flush(t, d, 1)
	store(t, d, 3, 2)
	if !d.Evict(0) {
		t.Error("line 0 was dirty")
	}
	expect(t, d, 3, 2, 2, false)
	fence(t, d) // of line 1 alone
	expect(t, d, 3, 2, 2, false)
	expect(t, d, 8, 1, 1, false)
}

func TestEvictOfWhatIsDirtyOnItsWayAlone(t *testing.T) {
	d := New(8)
	store(t, d, 3, 1)
	flush(t, d, 0)
	store(t, d, 3, 0)
	if !d.Evict(0) {
		t.Error("1 was on its way")
	}
	expect(t, d, 3, 0, 0, false)
	fence(t, d)
	expect(t, d, 3, 0, 0, false)
}

func TestDirtyIsRising(t *testing.T) {
	d := New(200)
	var want []int
	for k := range 60 {
		i := k * 37 % 200
		store(t, d, i, 1)
		want = append(want, i)
		slices.Sort(want)
		if !slices.Equal(d.Dirty(), want) {
			t.Fatalf("dirty %v, want %v", d.Dirty(), want)
		}
	}
	flush(t, d, 3)
	if !slices.Equal(d.Dirty(), want) {
		t.Errorf("without what is on its way: %v", d.Dirty())
	}
}

func TestEventsCountsWhatHadNoError(t *testing.T) {
	d := New(8)
	step := func(want int) {
		t.Helper()
		if d.Events() != want {
			t.Errorf("%d events, want %d", d.Events(), want)
		}
	}
	store(t, d, 0, 0)
	step(1)
	store(t, d, 0, 1)
	step(2)
	flush(t, d, 0)
	step(3)
	fence(t, d)
	step(4)
	d.Flush(1)
	d.Store(8, 1)
	d.Load(0)
	store(t, d, 0, 2)
	step(5)
	d.Evict(0)
	d.Dirty()
	d.Arm(1)
	step(5)
	d.Store(0, 3) // power fails
	d.Fence()
	step(5)
	d.Crash(nil)
	step(5)
	fence(t, d)
	step(6)
}

// P4.3

// steps are the calls that power may fail at.
func steps(d *Device) map[string]func() api.Errno {
	return map[string]func() api.Errno{
		"Store": func() api.Errno { return d.Store(1, 9) },
		"Flush": func() api.Errno { return d.Flush(0) },
		"Fence": func() api.Errno { return d.Fence() },
	}
}

// atWork is a device with a word that is dirty and one that is on its way.
func atWork(t *testing.T) *Device {
	d := New(16)
	store(t, d, 9, 4)
	flush(t, d, 1)
	store(t, d, 1, 6)
	return d
}

func TestPowerFailsAtTheStepThatWasArmed(t *testing.T) {
	for name := range steps(New(0)) {
		for n := 1; n <= 5; n++ {
			d := New(16)
			d.Arm(n)
			for range n - 1 {
				store(t, d, 9, d.Stays(9)+4)
			}
			ahead := d.Copy()
			if d.Dead() {
				t.Fatalf("%s, armed by %d: dead ahead of it", name, n)
			}
			if err := steps(d)[name](); err != io {
				t.Errorf("%s, armed by %d: %d", name, n, err)
			}
			if !d.Dead() || d.Events() != n-1 {
				t.Errorf("%s, armed by %d: dead %v, %d events", name, n, d.Dead(), d.Events())
			}
			if !slices.Equal(d.Dirty(), ahead.Dirty()) || !slices.Equal(stays(d), stays(ahead)) {
				t.Errorf("%s, armed by %d, did something", name, n)
			}
		}
	}
}

func TestTheStepThatPowerFailsAtDoesNothing(t *testing.T) {
	for name := range steps(New(0)) {
		d := atWork(t)
		d.Arm(1)
		if err := steps(d)[name](); err != io || !d.Dead() {
			t.Errorf("%s: %d, dead %v", name, err, d.Dead())
		}
		if !slices.Equal(d.Dirty(), []int{1, 9}) || slices.Max(stays(d)) != 0 {
			t.Errorf("%s: dirty %v, stays %v", name, d.Dirty(), stays(d))
		}
		d.Crash([]bool{true, true})
		if d.Stays(1) != 6 || d.Stays(9) != 4 {
			t.Errorf("%s: %v", name, stays(d))
		}
	}
}

func TestOnlyStepsWithoutErrorsComeNearer(t *testing.T) {
	d := New(8)
	d.Arm(2)
	for _, i := range noWords(8) {
		d.Store(i, 1)
		d.Load(i)
	}
	for _, line := range noLines(8) {
		d.Flush(line)
		d.Evict(line)
	}
	store(t, d, 0, 1)
	d.Evict(0)
	d.Load(0)
	d.Dirty()
	if err := d.Store(8, 1); err != arg || d.Dead() {
		t.Errorf("Store of no word: %d, dead %v", err, d.Dead())
	}
	if err := d.Fence(); err != io || !d.Dead() {
		t.Errorf("the second step: %d, dead %v", err, d.Dead())
	}
}

func TestArmAgain(t *testing.T) {
	for _, off := range []int{0, -1, math.MinInt} {
		d := New(8)
		d.Arm(1)
		d.Arm(off)
		for range 10 {
			fence(t, d)
		}
	}
	d := New(8)
	d.Arm(1)
	d.Arm(3)
	fence(t, d)
	fence(t, d)
	d.Arm(2)
	fence(t, d)
	if err := d.Fence(); err != io {
		t.Errorf("the last one armed: %d", err)
	}
	d = New(8)
	d.Arm(math.MaxInt)
	for range 1000 {
		fence(t, d)
	}
}

func TestDeadTellsErrIOAheadOfAllElse(t *testing.T) {
	d := atWork(t)
	d.Arm(1)
	d.Fence()
	for _, i := range append(noWords(16), 0, 1, 9, 15) {
		if v, err := d.Load(i); v != 0 || err != io {
			t.Errorf("Load(%d) = %d, %d", i, v, err)
		}
		if err := d.Store(i, 8); err != io {
			t.Errorf("Store(%d): %d", i, err)
		}
	}
	for _, line := range append(noLines(16), 0, 1) {
		if err := d.Flush(line); err != io {
			t.Errorf("Flush(%d): %d", line, err)
		}
		if d.Evict(line) {
			t.Errorf("Evict(%d)", line)
		}
	}
	if err := d.Fence(); err != io {
		t.Errorf("Fence: %d", err)
	}
	if !d.Dead() || d.Words() != 16 || d.Events() != 3 || !slices.Equal(d.Dirty(), []int{1, 9}) || slices.Max(stays(d)) != 0 {
		t.Errorf("%d words, %d events, dirty %v, stays %v", d.Words(), d.Events(), d.Dirty(), stays(d))
	}
	d.Arm(0) // that it isn't armed doesn't bring power back
	if err := d.Fence(); err != io || !d.Dead() {
		t.Errorf("Fence: %d, dead %v", err, d.Dead())
	}
}

func TestCrashKeepsByPlace(t *testing.T) {
	for number := range 1 << 4 {
		for n := range 7 { // fewer places than dirty words, as many, and more
			d := New(24)
			places := []int{20, 3, 8, 7}
			for _, i := range places {
				store(t, d, i, uint64(i)+100)
			}
			flush(t, d, 1) // what is on its way is lost as all else
			keep := make([]bool, n)
			for k := range keep {
				keep[k] = k > 3 || number>>k&1 == 1
			}
			d.Crash(keep)
			for k, i := range []int{3, 7, 8, 20} {
				want := uint64(0)
				if k < n && keep[k] {
					want = uint64(i) + 100
				}
				expect(t, d, i, want, want, false)
			}
			if len(d.Dirty()) != 0 {
				t.Errorf("dirty %v", d.Dirty())
			}
		}
	}
}

func TestCrashKeepsWhatIsHeldNotWhatWasSent(t *testing.T) {
	for _, keep := range []bool{false, true} {
		d := New(8)
		store(t, d, 2, 1)
		flush(t, d, 0)
		store(t, d, 2, 5)
		d.Crash([]bool{keep})
		want := uint64(0)
		if keep {
			want = 5
		}
		expect(t, d, 2, want, want, false)
		fence(t, d) // nothing is on its way any more
		expect(t, d, 2, want, want, false)
	}
}

func TestCrashBringsPowerBack(t *testing.T) {
	d := atWork(t)
	d.Arm(1)
	d.Fence()
	d.Arm(1)
	d.Crash(nil)
	if d.Dead() {
		t.Error("it is dead still")
	}
	for range 5 {
		fence(t, d) // not armed any more
	}
	if slices.Max(load(t, d)) != 0 {
		t.Errorf("%v", load(t, d))
	}
	store(t, d, 1, 7)
	flush(t, d, 0)
	fence(t, d)
	expect(t, d, 1, 7, 7, false)
}

func TestCrashOfWhatIsNotDead(t *testing.T) {
	d := atWork(t)
	d.Arm(3)
	d.Crash([]bool{false, true})
	expect(t, d, 1, 0, 0, false)
	expect(t, d, 9, 4, 4, false)
	for range 5 {
		fence(t, d)
	}
}

func TestExamples(t *testing.T) {
	d := New(8)
	store(t, d, 0, 1)
	d.Crash(nil)
	expect(t, d, 0, 0, 0, false)
	store(t, d, 0, 1)
	flush(t, d, 0)
	fence(t, d)
	d.Crash(nil)
	expect(t, d, 0, 1, 1, false)
}

// P4.1 to P4.3, by their words: a device of which each word has what it holds, what it stays as, and what is on its way for it.

type plainWord struct {
	holds, stays, sent uint64
	away               bool
}

func (w plainWord) dirty() bool {
	return w.away || w.holds != w.stays
}

type plainDevice struct {
	words         []plainWord
	events, armed int
	dead          bool
}

// fails tells whether power fails at a step that would have no error.
func (p *plainDevice) fails() bool {
	if p.armed == 1 {
		p.dead = true
	}
	p.armed = max(p.armed-1, 0)
	if !p.dead {
		p.events++
	}
	return p.dead
}

func (p *plainDevice) lineOf(line int) []int {
	var l []int
	for i := range p.words {
		if i/8 == line && p.words[i].dirty() {
			l = append(l, i)
		}
	}
	return l
}

func (p *plainDevice) store(i int, v uint64) api.Errno {
	switch {
	case p.dead:
		return io
	case i < 0 || i >= len(p.words):
		return arg
	case p.fails():
		return io
	}
	p.words[i].holds = v
	return ok
}

func (p *plainDevice) flush(line int) api.Errno {
	switch {
	case p.dead:
		return io
	case line < 0 || line*8 >= len(p.words):
		return arg
	case p.fails():
		return io
	}
	for _, i := range p.lineOf(line) {
		w := &p.words[i]
		w.sent, w.away = w.holds, true
	}
	return ok
}

func (p *plainDevice) fence() api.Errno {
	if p.dead || p.fails() {
		return io
	}
	for i := range p.words {
		if w := &p.words[i]; w.away {
			w.stays, w.away = w.sent, false
		}
	}
	return ok
}

func (p *plainDevice) evict(line int) bool {
	if p.dead {
		return false
	}
	dirty := p.lineOf(line)
	for _, i := range dirty {
		w := &p.words[i]
		w.stays, w.away = w.holds, false
	}
	return len(dirty) > 0
}

func (p *plainDevice) crash(keep []bool) {
	place := 0
	for i := range p.words {
		w := &p.words[i]
		if w.dirty() {
			if place < len(keep) && keep[place] {
				w.stays = w.holds
			}
			place++
		}
		w.holds, w.away = w.stays, false
	}
	p.dead, p.armed = false, 0
}

// alike holds all that can be asked of d against p.
func alike(d *Device, p *plainDevice) bool {
	var dirty []int
	for i, w := range p.words {
		v, err := d.Load(i)
		if p.dead && (v != 0 || err != io) || !p.dead && (v != w.holds || err != ok) || d.Stays(i) != w.stays {
			return false
		}
		if w.dirty() {
			dirty = append(dirty, i)
		}
	}
	return slices.Equal(d.Dirty(), dirty) && d.Words() == len(p.words) && d.Events() == p.events && d.Dead() == p.dead
}

// draw is a row of numbers that is the same each time.
func draw(seed uint64) func(below int) int {
	x := seed*2862933555777941757 + 88172645463325252
	return func(below int) int {
		x ^= x << 13
		x ^= x >> 7
		x ^= x << 17
		return int(x >> 20 % uint64(below))
	}
}

func bits(number, n int) []bool {
	l := make([]bool, n)
	for i := range l {
		l[i] = number>>i&1 == 1
	}
	return l
}

func TestLongRowsByTheWords(t *testing.T) {
	for seed := range 60 {
		next := draw(uint64(seed))
		n := next(40)
		d, p := New(n), &plainDevice{words: make([]plainWord, n)}
		for step := range 3000 {
			same := true
			switch i, line := next(n+2)-1, next(n/8+3)-1; next(16) {
			case 0, 1, 2, 3, 4, 5:
				v := uint64(next(3))
				same = d.Store(i, v) == p.store(i, v)
			case 6, 7, 8, 9:
				same = d.Flush(line) == p.flush(line)
			case 10, 11:
				same = d.Fence() == p.fence()
			case 12, 13:
				same = d.Evict(line) == p.evict(line)
			case 14:
				if next(4) == 0 {
					p.armed = next(20)
					d.Arm(p.armed)
				}
			case 15:
				if p.dead || next(8) == 0 {
					keep := bits(next(1<<20), next(20))
					d.Crash(keep)
					p.crash(keep)
				}
			}
			if !same || !alike(d, p) {
				t.Fatalf("seed %d, step %d: %v, dirty %v, want %v", seed, step, stays(d), d.Dirty(), p)
			}
		}
	}
}

// TestAllShortRowsByTheWords goes through each row of steps on words of one line and of another.
func TestAllShortRowsByTheWords(t *testing.T) {
	const kinds, length = 10, 5
	rows := 1
	for range length {
		rows *= kinds
	}
	for row := range rows {
		d, p := New(9), &plainDevice{words: make([]plainWord, 9)}
		for rest, k := row, 0; k < length; rest, k = rest/kinds, k+1 {
			same := true
			switch kind := rest % kinds; kind {
			case 0, 1, 2:
				same = d.Store(7, uint64(kind)) == p.store(7, uint64(kind))
			case 3:
				same = d.Store(8, 1) == p.store(8, 1)
			case 4, 5:
				same = d.Flush(kind-4) == p.flush(kind-4)
			case 6:
				same = d.Fence() == p.fence()
			case 7:
				same = d.Evict(0) == p.evict(0)
			case 8:
				p.armed = 2
				d.Arm(2)
			case 9:
				d.Crash([]bool{true})
				p.crash([]bool{true})
			}
			if !same || !alike(d, p) {
				t.Fatalf("row %d, step %d: %v, dirty %v, want %v", row, k, stays(d), d.Dirty(), p)
			}
		}
	}
}

// P4.4

// history is what was stored to a word since it was made, and, if there is such a one, what was flushed and fenced since the last Store.
type history struct {
	stored  []uint64
	flushed bool
	safe    bool
}

func (h *history) holds() uint64 {
	return h.stored[len(h.stored)-1]
}

// TestNothingElseStays goes by what was done alone, whatever the device keeps of it.
func TestNothingElseStays(t *testing.T) {
	const n = 20
	for seed := range 200 {
		next := draw(uint64(seed) + 1000)
		d := New(n)
		past := make([]history, n)
		for i := range past {
			past[i] = history{stored: []uint64{0}, safe: true}
		}
		for step := range 400 {
			switch i := next(n); next(8) {
			case 0, 1, 2:
				v := uint64(step + 1)
				store(t, d, i, v)
				past[i] = history{stored: append(past[i].stored, v)}
			case 3, 4:
				flush(t, d, i/8)
				for k := i / 8 * 8; k < min(i/8*8+8, n); k++ {
					past[k].flushed = true
				}
			case 5:
				fence(t, d)
				for k := range past {
					past[k].safe = past[k].safe || past[k].flushed
				}
			case 6:
				d.Evict(i / 8)
			case 7:
				other := d.Copy()
				other.Crash(bits(next(1<<n), n))
				for k, v := range load(t, other) {
					if !slices.Contains(past[k].stored, v) {
						t.Fatalf("seed %d, step %d: word %d is %d, of %v", seed, step, k, v, past[k].stored)
					}
					if past[k].safe && v != past[k].holds() {
						t.Fatalf("seed %d, step %d: word %d is %d, though %d was fenced", seed, step, k, v, past[k].holds())
					}
				}
			}
		}
	}
}

func TestCopyGoesItsOwnWay(t *testing.T) {
	changes := map[string]func(d *Device){
		"Store":      func(d *Device) { d.Store(1, 8); d.Store(14, 8) },
		"Store back": func(d *Device) { d.Store(1, 0) },
		"Flush":      func(d *Device) { d.Flush(0) },
		"Fence":      func(d *Device) { d.Fence() },
		"Evict":      func(d *Device) { d.Evict(1) },
		"Crash":      func(d *Device) { d.Crash([]bool{true, true}) },
		"Arm":        func(d *Device) { d.Arm(1) },
		"all": func(d *Device) {
			d.Flush(0)
			d.Fence()
			d.Store(9, 1)
			d.Arm(1)
			d.Fence()
		},
	}
	for name, change := range changes {
		for _, copied := range []bool{true, false} {
			d := atWork(t)
			other := d.Copy()
			if copied {
				d, other = other, d
			}
			change(other)
			if !slices.Equal(d.Dirty(), []int{1, 9}) || slices.Max(stays(d)) != 0 || d.Dead() || d.Events() != 3 {
				t.Errorf("%s, copied %v: dirty %v, stays %v, %d events", name, copied, d.Dirty(), stays(d), d.Events())
			}
			expect(t, d, 1, 6, 0, true)
			expect(t, d, 9, 4, 0, true)
			fence(t, d)
			expect(t, d, 9, 4, 4, false)
			expect(t, d, 1, 6, 0, true)
		}
	}
}

func TestCopyIsAlikeInAll(t *testing.T) {
	d := atWork(t)
	d.Arm(2)
	other := d.Copy()
	for _, x := range []*Device{d, other} { // each has its own two steps
		fence(t, x)
		if err := x.Flush(0); err != io || !x.Dead() {
			t.Errorf("Flush: %d, dead %v", err, x.Dead())
		}
	}
	late := d.Copy() // a dead one's is dead
	if err := late.Fence(); err != io || !late.Dead() || !slices.Equal(late.Dirty(), []int{1}) || late.Words() != 16 || late.Events() != 4 {
		t.Errorf("%d, dead %v, dirty %v, %d events", err, late.Dead(), late.Dirty(), late.Events())
	}
	late.Crash([]bool{true})
	if !d.Dead() || d.Stays(1) != 0 || late.Stays(1) != 6 || late.Stays(9) != 4 {
		t.Errorf("dead %v, %v, %v", d.Dead(), stays(d), stays(late))
	}
}

func TestCopyOfNoWords(t *testing.T) {
	d := New(0).Copy()
	if d == nil || d.Words() != 0 {
		t.Fatal("no copy")
	}
	if err := d.Fence(); err != ok || d.Events() != 1 {
		t.Errorf("Fence: %d, %d events", err, d.Events())
	}
}

// What nobody made is told from what has no words: there Fence succeeds, and places are what is wrong.
func TestDeviceThatNobodyMade(t *testing.T) {
	for _, d := range []*Device{nil, {}, new(Device)} {
		for range 2 {
			for _, i := range []int{0, 1, -1, math.MaxInt, math.MinInt} {
				if v, err := d.Load(i); v != 0 || err != api.ErrNil {
					t.Errorf("Load(%d) = %d, %d", i, v, err)
				}
				if err := d.Store(i, 1); err != api.ErrNil {
					t.Errorf("Store(%d): %d", i, err)
				}
				if err := d.Flush(i); err != api.ErrNil {
					t.Errorf("Flush(%d): %d", i, err)
				}
				if d.Evict(i) || d.Stays(i) != 0 {
					t.Errorf("Evict or Stays of %d", i)
				}
			}
			if err := d.Fence(); err != api.ErrNil {
				t.Errorf("Fence: %d", err)
			}
			if d.Words() != 0 || d.Events() != 0 || d.Dead() || len(d.Dirty()) != 0 || d.Copy() != nil {
				t.Error("there is something of it")
			}
			d.Arm(1)
			d.Crash(nil)
			d.Crash([]bool{true})
		}
	}
}

// P4.1 to P4.4, by the rules that hold everywhere

func TestDirtyIsAListOfItsOwn(t *testing.T) {
	d := atWork(t)
	got := d.Dirty()
	again := d.Dirty()
	got[0] = 50
	_ = append(got[:1], 60)
	if !slices.Equal(again, []int{1, 9}) || !slices.Equal(d.Dirty(), []int{1, 9}) {
		t.Errorf("answers share: %v, %v", again, d.Dirty())
	}
	store(t, d, 3, 1)
	if !slices.Equal(again, []int{1, 9}) {
		t.Errorf("the answer changes: %v", again)
	}
}

func TestKeepStaysAsItWasAndIsReadToItsLength(t *testing.T) {
	d := atWork(t)
	whole := []bool{true, true, true}
	d.Crash(whole[:1])
	if !slices.Equal(whole, []bool{true, true, true}) {
		t.Errorf("changed to %v", whole)
	}
	expect(t, d, 1, 6, 6, false)
	expect(t, d, 9, 0, 0, false)
	for _, keep := range [][]bool{nil, {}, whole[:0]} {
		d = atWork(t)
		d.Crash(keep)
		if slices.Max(stays(d)) != 0 {
			t.Errorf("%v", stays(d))
		}
	}
}
