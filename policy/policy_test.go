package policy

import (
	"math"
	"slices"
	"testing"

	"sump/api"
)

var (
	nan   = math.NaN()
	high  = math.Inf(1)
	low   = math.Inf(-1)
	minus = math.Copysign(0, -1)
	third = 1.0 / 3
)

const (
	tiny  = math.SmallestNonzeroFloat64
	great = math.MaxFloat64
)

// alike holds bits against each other, since the noughts are not told apart by ==; a NaN's bits are left to the machine.
func alike(a, b float64) bool {
	return math.Float64bits(a) == math.Float64bits(b) || math.IsNaN(a) && math.IsNaN(b)
}

func allAlike(a, b []float64) bool {
	return slices.EqualFunc(a, b, alike)
}

// bits is a list of n, true where number has a bit.
func bits(number, n int) []bool {
	l := make([]bool, n)
	for i := range l {
		l[i] = number>>i&1 == 1
	}
	return l
}

// plain are policies for which P2.2 holds, those at its edges among them.
var plain = []api.Policy{
	{},
	{Keep: 0.5, Gain: 1, Limit: 1.5},
	{Keep: 1, Gain: 1, Limit: 3},
	{Keep: 0, Gain: 1, Limit: 1},
	{Keep: 1, Gain: 0, Limit: 0},
	{Keep: minus, Gain: minus, Limit: minus},
	{Keep: minus, Gain: 2, Limit: 2},
	{Keep: third, Gain: 0.1, Limit: 0.14},
	{Keep: math.Nextafter(1, 0), Gain: 0.3, Limit: 1},
	{Keep: tiny, Gain: tiny, Limit: tiny},
	{Keep: tiny, Gain: great, Limit: great},
	{Keep: 0.5, Gain: tiny, Limit: 2 * tiny},
	{Keep: 0.5, Gain: great, Limit: high},
	{Keep: 1, Gain: great, Limit: high},
	{Keep: 0.7, Gain: 1e300, Limit: low},
}

// notPlain are policies that break each bound of P2.2 by itself.
var notPlain = []api.Policy{
	{Keep: -tiny, Gain: 1, Limit: 1},
	{Keep: math.Nextafter(1, 2), Gain: 1, Limit: 1},
	{Keep: -1, Gain: 1, Limit: 1},
	{Keep: 2, Gain: 1, Limit: 1},
	{Keep: high, Gain: 1, Limit: 1},
	{Keep: low, Gain: 1, Limit: 1},
	{Keep: nan, Gain: 1, Limit: 1},
	{Keep: 0.5, Gain: -tiny, Limit: 1},
	{Keep: 0.5, Gain: -great, Limit: 1},
	{Keep: 0.5, Gain: high, Limit: 1},
	{Keep: 0.5, Gain: low, Limit: 1},
	{Keep: 0.5, Gain: nan, Limit: 1},
	{Keep: 0.5, Gain: 1, Limit: nan},
	{Keep: nan, Gain: nan, Limit: nan},
}

func all() []api.Policy {
	return append(append([]api.Policy{}, plain...), notPlain...)
}

// P2.1

func TestNext(t *testing.T) {
	for _, c := range []struct {
		keep, gain, score float64
		none, synced      float64
	}{
		{0.5, 1, 0, 0, 1},
		{0.5, 1, 1, 0.5, 1.5},
		{0.5, 1, 1.5, 0.75, 1.75},
		{1, 0, 3, 3, 3},
		{0, 2, 3, 0, 2},
		{2, -5, 3, 6, 1},
		{-1, 0.25, 3, -3, -2.75},
		{0.5, 0, tiny, 0, 0}, // half of the least is rounded to 0
		{0.5, 0, 3 * tiny, 2 * tiny, 2 * tiny},
		{1, great, great, great, high},
		{2, -great, great, high, high}, // the product is rounded ahead of the sum
		{1, high, low, low, nan},
		{0, 1, high, nan, nan},
		{nan, 1, 1, nan, nan},
		{1, nan, 1, 1, nan},
		{1, 1, nan, nan, nan},
		{1, 0, minus, minus, 0},
		{minus, minus, 0, minus, minus},
	} {
		p := api.Policy{Keep: c.keep, Gain: c.gain, Limit: 1}
		if got := Next(p, c.score, false); !alike(got, c.none) {
			t.Errorf("Next(%v, %v, false) = %v, want %v", p, c.score, got, c.none)
		}
		if got := Next(p, c.score, true); !alike(got, c.synced) {
			t.Errorf("Next(%v, %v, true) = %v, want %v", p, c.score, got, c.synced)
		}
	}
}

// A product that is fused into the sum would leave what its own rounding takes away.
func TestNextRoundsEachByItself(t *testing.T) {
	for _, c := range []struct{ keep, gain, score, want float64 }{
		{0.1, -1, 10, 0},
		{third, -1, 3, 0},
		{1 + 0x1p-52, -1 - 0x1p-51, 1 + 0x1p-52, 0},
	} {
		p := api.Policy{Keep: c.keep, Gain: c.gain}
		if got := Next(p, c.score, true); !alike(got, c.want) {
			t.Errorf("Next(%v, %v, true) = %v, want %v", p, c.score, got, c.want)
		}
	}
}

func TestNextHangsNotOnLimit(t *testing.T) {
	for _, limit := range []float64{0, 1, -1, high, low, nan} {
		if got := Next(api.Policy{Keep: 0.5, Gain: 1, Limit: limit}, 3, true); got != 2.5 {
			t.Errorf("Limit %v: %v", limit, got)
		}
	}
}

func TestEager(t *testing.T) {
	for _, c := range []struct {
		limit, score float64
		want         bool
	}{
		{2, 1, false},
		{2, 2, true},
		{2, 3, true},
		{2, math.Nextafter(2, 0), false},
		{2, math.Nextafter(2, 3), true},
		{-2, -3, false},
		{-2, 0, true},
		{0, minus, true}, // the noughts are one by value: neither is below the other
		{minus, 0, true},
		{0, -tiny, false},
		{high, great, false},
		{high, high, true},
		{low, low, true},
		{low, -great, true},
		{-great, low, false},
		{2, nan, false},
		{low, nan, false},
		{nan, 2, false},
		{nan, high, false},
		{nan, nan, false},
	} {
		for _, p := range []api.Policy{{Limit: c.limit}, {Keep: 0.5, Gain: 1, Limit: c.limit}, {Keep: nan, Gain: nan, Limit: c.limit}} {
			if got := Eager(p, c.score); got != c.want {
				t.Errorf("Eager(%v, %v) = %v", p, c.score, got)
			}
		}
	}
}

func TestRun(t *testing.T) {
	for _, c := range []struct {
		p    api.Policy
		l    []bool
		want []float64
	}{
		{api.Policy{Keep: 0.5, Gain: 1}, []bool{true, true}, []float64{1, 1.5}},
		{api.Policy{Keep: 0.5, Gain: 1}, []bool{false}, []float64{0}},
		{api.Policy{Keep: 0.5, Gain: 1}, []bool{false, true, false, false, true}, []float64{0, 1, 0.5, 0.25, 1.125}},
		{api.Policy{Keep: 0, Gain: 3}, []bool{true, false, true}, []float64{3, 0, 3}},
		{api.Policy{Keep: 1, Gain: great}, []bool{true, true, false}, []float64{great, high, high}},
		{api.Policy{Keep: -1, Gain: 1}, []bool{true, false, false, true}, []float64{1, -1, 1, 0}},
		{api.Policy{Keep: 0, Gain: high}, []bool{false, true, false, true}, []float64{0, high, nan, nan}},
		{api.Policy{Keep: -1, Gain: 0}, []bool{false, false}, []float64{minus, 0}},
		{api.Policy{}, []bool{true, false}, []float64{0, 0}},
	} {
		if got := Run(c.p, c.l); !allAlike(got, c.want) {
			t.Errorf("Run(%v, %v) = %v, want %v", c.p, c.l, got, c.want)
		}
	}
}

func TestOfNone(t *testing.T) {
	for _, p := range append(all(), api.Policy{Limit: -1}) {
		for _, l := range [][]bool{nil, {}, make([]bool, 0, 4), []bool{true, true}[:0]} {
			if got := Run(p, l); len(got) != 0 {
				t.Errorf("Run(%v) = %v", p, got)
			}
			if got := Score(p, l); !alike(got, 0) {
				t.Errorf("Score(%v) = %v", p, got)
			}
			if i, is := First(p, l); i != 0 || is {
				t.Errorf("First(%v) = %v, %v", p, i, is)
			}
		}
	}
}

func TestFirst(t *testing.T) {
	for _, c := range []struct {
		p  api.Policy
		l  []bool
		i  int
		is bool
	}{
		{api.Policy{Keep: 0.5, Gain: 1, Limit: 1.5}, []bool{true, true, true}, 1, true},
		{api.Policy{Keep: 0.5, Gain: 1, Limit: 1.5}, []bool{true, false, true, false}, 0, false},
		{api.Policy{Keep: 0.5, Gain: 1, Limit: 1.5}, []bool{true, false, false, true, true, false, true}, 4, true},
		{api.Policy{Keep: 0.5, Gain: 1, Limit: 1}, []bool{false, false, true}, 2, true},
		{api.Policy{Keep: 0.5, Gain: 1, Limit: 0}, []bool{false, true}, 0, true},
		{api.Policy{Keep: 0.5, Gain: 1, Limit: -1}, []bool{true}, 0, true},
		{api.Policy{Keep: 0.5, Gain: 1, Limit: 2}, []bool{true, true, true, true}, 0, false},
		{api.Policy{Keep: 1, Gain: great, Limit: high}, []bool{true, false, true}, 2, true},
		{api.Policy{Keep: 1, Gain: 1, Limit: nan}, []bool{true, true}, 0, false},
		{api.Policy{Keep: nan, Gain: 1, Limit: low}, []bool{true, true}, 0, false},
		{api.Policy{Keep: 1, Gain: -1, Limit: -2}, []bool{false, true}, 0, true},
		{api.Policy{Keep: -1, Gain: -1, Limit: 1}, []bool{true, false, true}, 1, true}, // the first, though the next is below
	} {
		if i, is := First(c.p, c.l); i != c.i || is != c.is {
			t.Errorf("First(%v, %v) = %v, %v, want %v, %v", c.p, c.l, i, is, c.i, c.is)
		}
	}
}

// TestOneByOne holds what goes along a list against Next and Eager, one behind the other.
func TestOneByOne(t *testing.T) {
	const n = 7
	for _, p := range all() {
		for number := range 1 << n {
			l := bits(number, n)
			score, first, is := 0.0, 0, false
			want := make([]float64, n)
			for i, synced := range l {
				score = Next(p, score, synced)
				want[i] = score
				if !is && Eager(p, score) {
					first, is = i, true
				}
			}
			if got := Run(p, l); !allAlike(got, want) {
				t.Fatalf("Run(%v, %v) = %v, want %v", p, l, got, want)
			}
			if got := Score(p, l); !alike(got, score) {
				t.Fatalf("Score(%v, %v) = %v, want %v", p, l, got, score)
			}
			if i, told := First(p, l); i != first || told != is {
				t.Fatalf("First(%v, %v) = %v, %v, want %v, %v", p, l, i, told, first, is)
			}
		}
	}
}

func TestListsThatAreHandedInStayAsTheyWere(t *testing.T) {
	p := api.Policy{Keep: 0.5, Gain: 1, Limit: 9}
	whole := bits(0b1011001, 9)
	l := whole[1:6]
	Run(p, l)
	First(p, l)
	Score(p, l)
	for i, synced := range bits(0b1011001, 9) {
		if whole[i] != synced {
			t.Errorf("place %d is changed", i)
		}
	}
}

func TestNothingBehindTheLengthIsRead(t *testing.T) {
	p := api.Policy{Keep: 1, Gain: 1, Limit: 3}
	l := []bool{true, true, true, true}[:2]
	if got := Run(p, l); !allAlike(got, []float64{1, 2}) {
		t.Errorf("Run = %v", got)
	}
	if got := Score(p, l); got != 2 {
		t.Errorf("Score = %v", got)
	}
	if i, is := First(p, l); is {
		t.Errorf("First = %v", i)
	}
}

func TestRunIsAListOfItsOwn(t *testing.T) {
	p := api.Policy{Keep: 1, Gain: 1}
	l := []bool{true, true}
	got := Run(p, l)
	again := Run(p, l)
	got[0] = 50
	_ = append(got[:1], 60)
	if !allAlike(again, []float64{1, 2}) || !allAlike(Run(p, l), []float64{1, 2}) {
		t.Errorf("answers share: %v", again)
	}
}

// P2.2

func TestPlain(t *testing.T) {
	for _, p := range plain {
		if !Plain(p) {
			t.Errorf("Plain(%v) = false", p)
		}
	}
	for _, p := range notPlain {
		if Plain(p) {
			t.Errorf("Plain(%v) = true", p)
		}
	}
}

// P2.3

// notLess is false of NaNs, too.
func notLess(more, less []float64) bool {
	for i := range less {
		if !(more[i] >= less[i]) {
			return false
		}
	}
	return len(more) == len(less)
}

func TestMoreSyncsMakeNoScoreLess(t *testing.T) {
	const n = 6
	for _, p := range plain {
		for less := range 1 << n {
			for more := range 1 << n {
				if less&more != less {
					continue
				}
				a, b := Run(p, bits(less, n)), Run(p, bits(more, n))
				if !notLess(b, a) {
					t.Fatalf("%v: %v with %06b, %v with %06b", p, b, more, a, less)
				}
				if Score(p, bits(more, n)) < Score(p, bits(less, n)) {
					t.Fatalf("%v: Score with %06b is less than with %06b", p, more, less)
				}
			}
		}
	}
}

func TestMoreSyncsAreEagerNoLater(t *testing.T) {
	const n = 6
	for _, p := range plain {
		for less := range 1 << n {
			i, is := First(p, bits(less, n))
			for more := range 1 << n {
				if less&more != less || !is {
					continue
				}
				if k, too := First(p, bits(more, n)); !too || k > i {
					t.Fatalf("%v: First with %06b is %v, %v, with %06b %v", p, more, k, too, less, i)
				}
			}
		}
	}
}

// Long rows come to where a further sync is lost in rounding, or where the score is infinite: it is a number there, too.
func TestMoreSyncsInLongRows(t *testing.T) {
	const n = 400
	for _, p := range plain {
		less := make([]bool, n)
		x := uint64(88172645463325252)
		for i := range less {
			x ^= x << 13
			x ^= x >> 7
			x ^= x << 17
			less[i] = x%3 == 0
		}
		before := Run(p, less)
		for i := range less {
			more := append([]bool{}, less...)
			more[i] = true
			if !notLess(Run(p, more), before) {
				t.Fatalf("%v: a sync more at %d makes a score less", p, i)
			}
		}
	}
}
