package float

import (
	"math"
	"testing"
)

var (
	nan      = math.NaN()
	otherNaN = math.Float64frombits(0x7ff8000000000abc)
	minusNaN = math.Float64frombits(0xfff8000000000001)
	high     = math.Inf(1)
	low      = math.Inf(-1)
	minus    = math.Copysign(0, -1)
)

const (
	tiny  = math.SmallestNonzeroFloat64
	great = math.MaxFloat64
)

// ranks are floats with their places in the order: those of one rank are Same.
var ranks = []struct {
	x     float64
	rank  int
	class int
}{
	{nan, 0, 0},
	{otherNaN, 0, 0},
	{minusNaN, 0, 0},
	{low, 1, 1},
	{-great, 2, 2},
	{-2, 3, 2},
	{-1, 4, 2},
	{-1, 4, 2},
	{-tiny, 5, 2},
	{minus, 6, 3},
	{0, 7, 4},
	{tiny, 8, 5},
	{1, 9, 5},
	{math.Nextafter(1, 2), 10, 5},
	{5, 11, 5},
	{great, 12, 5},
	{high, 13, 6},
}

// alike holds bits against each other, since NaNs and noughts are not told apart by ==.
func alike(a, b float64) bool {
	return math.Float64bits(a) == math.Float64bits(b)
}

func allAlike(a, b []float64) bool {
	if len(a) != len(b) {
		return false
	}
	for i := range a {
		if !alike(a[i], b[i]) {
			return false
		}
	}
	return true
}

// pseudo is a row of floats with many Same ones, NaNs of unlike bits among them.
func pseudo(n int) []float64 {
	l := make([]float64, n)
	x := uint64(88172645463325252)
	for i := range l {
		x ^= x << 13
		x ^= x >> 7
		x ^= x << 17
		l[i] = ranks[x%uint64(len(ranks))].x
		if math.IsNaN(l[i]) {
			l[i] = math.Float64frombits(0x7ff8000000000000 + uint64(i))
		}
	}
	return l
}

// P1.1

func TestClass(t *testing.T) {
	for _, r := range ranks {
		if got := Class(r.x); got != r.class {
			t.Errorf("Class(%v) = %d, want %d", r.x, got, r.class)
		}
	}
}

func TestLessGoesByRank(t *testing.T) {
	for _, a := range ranks {
		for _, b := range ranks {
			if got := Less(a.x, b.x); got != (a.rank < b.rank) {
				t.Errorf("Less(%v, %v) = %v", a.x, b.x, got)
			}
		}
	}
}

func TestSameGoesByRank(t *testing.T) {
	for _, a := range ranks {
		for _, b := range ranks {
			if got := Same(a.x, b.x); got != (a.rank == b.rank) {
				t.Errorf("Same(%v, %v) = %v", a.x, b.x, got)
			}
		}
	}
}

// P1.2

func TestMinAndMax(t *testing.T) {
	for _, c := range []struct{ l, ends []float64 }{
		{[]float64{7}, []float64{7, 7}},
		{[]float64{3, 1, 2}, []float64{1, 3}},
		{[]float64{-3, -1, -2}, []float64{-3, -1}},
		{[]float64{0, minus, 0}, []float64{minus, 0}},
		{[]float64{minus, 0, minus}, []float64{minus, 0}},
		{[]float64{minus}, []float64{minus, minus}},
		{[]float64{3, nan, low}, []float64{nan, 3}},
		{[]float64{nan}, []float64{nan, nan}},
		{[]float64{low, 4, high}, []float64{low, high}},
		{[]float64{high, 4, low}, []float64{low, high}},
		{[]float64{tiny, -tiny, 0}, []float64{-tiny, tiny}},
		{[]float64{high, high, nan, 2}, []float64{nan, high}},
		{[]float64{2, high, 3, low, 1}, []float64{low, high}},
		{[]float64{low, low, nan, great, high}, []float64{nan, high}},
	} {
		if x, is := Min(c.l); !is || !alike(x, c.ends[0]) {
			t.Errorf("Min(%v) = %v, %v", c.l, x, is)
		}
		if x, is := Max(c.l); !is || !alike(x, c.ends[1]) {
			t.Errorf("Max(%v) = %v, %v", c.l, x, is)
		}
	}
}

func TestMinAndMaxTellTheFirstOfSameOnes(t *testing.T) {
	if x, _ := Min([]float64{4, otherNaN, nan, minusNaN, 1}); !alike(x, otherNaN) {
		t.Errorf("Min: bits %x", math.Float64bits(x))
	}
	if x, _ := Max([]float64{minusNaN, nan, otherNaN}); !alike(x, minusNaN) {
		t.Errorf("Max: bits %x", math.Float64bits(x))
	}
}

func TestMinAndMaxByTheirWords(t *testing.T) {
	for n := 1; n < 60; n++ {
		l := pseudo(n)
		least, _ := Min(l)
		most, _ := Max(l)
		if !alike(least, firstThat(l, Less)) || !alike(most, firstThat(l, func(x, y float64) bool { return Less(y, x) })) {
			t.Errorf("%v: Min %v, Max %v", l, least, most)
		}
	}
}

// firstThat is the first that none is ahead of, all held against all.
func firstThat(l []float64, ahead func(x, y float64) bool) float64 {
candidates:
	for _, x := range l {
		for _, y := range l {
			if ahead(y, x) {
				continue candidates
			}
		}
		return x
	}
	panic("no order")
}

func TestMinAndMaxOfNone(t *testing.T) {
	for _, l := range [][]float64{nil, {}, make([]float64, 0, 4), []float64{1, 2}[:0]} {
		if x, is := Min(l); is || !alike(x, 0) {
			t.Errorf("Min = %v, %v", x, is)
		}
		if x, is := Max(l); is || !alike(x, 0) {
			t.Errorf("Max = %v, %v", x, is)
		}
	}
}

func TestSort(t *testing.T) {
	for _, c := range []struct{ l, want []float64 }{
		{nil, nil},
		{[]float64{}, nil},
		{[]float64{nan}, []float64{nan}},
		{[]float64{3, 1, 2}, []float64{1, 2, 3}},
		{[]float64{0, minus, 0, minus}, []float64{minus, minus, 0, 0}},
		{[]float64{1, nan, 0, minus, low}, []float64{nan, low, minus, 0, 1}},
		{[]float64{high, otherNaN, -1, minusNaN, low, nan}, []float64{otherNaN, minusNaN, nan, low, -1, high}},
	} {
		if got := Sort(c.l); !allAlike(got, c.want) {
			t.Errorf("Sort(%v) = %v", c.l, got)
		}
	}
}

func TestSortLeavesSameOnesAsTheyStood(t *testing.T) {
	for _, n := range []int{2, 13, 40, 300} {
		l := pseudo(n)
		want := append([]float64{}, l...)
		for i := range want { // one by one into its place, behind those that are Same
			for k := i; k > 0 && Less(want[k], want[k-1]); k-- {
				want[k], want[k-1] = want[k-1], want[k]
			}
		}
		if got := Sort(l); !allAlike(got, want) {
			t.Errorf("Sort of %d: %v", n, got)
		}
	}
}

func TestListsThatAreHandedInStayAsTheyWere(t *testing.T) {
	whole := []float64{5, nan, 2, minus, 0, low, 9, high, -4}
	kept := append([]float64{}, whole...)
	l := whole[1:6]
	Min(l)
	Max(l)
	Sort(l)
	if !allAlike(whole, kept) {
		t.Errorf("changed to %v", whole)
	}
}

func TestSortIsAListOfItsOwn(t *testing.T) {
	whole := []float64{1, 2, 3, 77}
	got := Sort(whole[:3])
	for _, x := range got[:cap(got)] {
		if x == 77 {
			t.Errorf("handed out from behind the length")
		}
	}
	got[0] = 50
	_ = append(got, 60)
	if !allAlike(whole, []float64{1, 2, 3, 77}) {
		t.Errorf("shared: %v", whole)
	}
	if again := Sort(whole[:3]); !allAlike(again, []float64{1, 2, 3}) {
		t.Errorf("answers share: %v", again)
	}
}

func TestMinAndMaxReadNothingBehindTheLength(t *testing.T) {
	l := []float64{2, 3, nan, high, low}[:2]
	if x, _ := Min(l); x != 2 {
		t.Errorf("Min = %v", x)
	}
	if x, _ := Max(l); x != 3 {
		t.Errorf("Max = %v", x)
	}
}

func TestClamp(t *testing.T) {
	for _, c := range [][4]float64{ // x, lo, hi, want
		{2, 1, 3, 2},
		{1, 1, 3, 1},
		{3, 1, 3, 3},
		{0, 1, 3, 1},
		{5, 1, 3, 3},
		{high, 1, 3, 3},
		{low, 1, 3, 1},
		{nan, 1, 3, 1},
		{high, low, high, high},
		{low, low, high, low},
		{minus, 0, 3, 0},
		{0, -3, minus, minus},
		{minus, minus, 0, minus},
		{0, minus, 0, 0},
		{2, nan, 3, 2},
		{4, nan, 3, 3},
		{low, nan, 3, low},
		{2, 1, nan, nan},
		{0, 1, nan, 1},
		{nan, nan, nan, nan},
		{minusNaN, nan, 1, minusNaN},
		{otherNaN, 1, nan, 1},
		{2, 3, 1, 3},
		{3, 3, 1, 1},
		{0, 3, 1, 3},
		{5, 3, 1, 1},
	} {
		if got := Clamp(c[0], c[1], c[2]); !alike(got, c[3]) {
			t.Errorf("Clamp(%v, %v, %v) = %v, want %v", c[0], c[1], c[2], got, c[3])
		}
	}
}

func TestMid(t *testing.T) {
	for _, c := range [][3]float64{ // x, y, want
		{1, 2, 1.5},
		{2, 1, 1.5},
		{-3, 1, -1},
		{4, 4, 4},
		{1e308, 1e308, 1e308},
		{great, great, great},
		{-great, -great, -great},
		{great, -great, 0},
		{high, 1, high},
		{low, great, low},
		{high, high, high},
		{minus, minus, minus},
		{minus, 0, 0},
		{0, minus, 0},
		{tiny, tiny, 0}, // half of the least is rounded to 0
		{-tiny, -tiny, minus},
		{3 * tiny, 0, 2 * tiny},
		{3 * tiny, 3 * tiny, 4 * tiny}, // each half rounded by itself, not the sum
		{3 * tiny, tiny, 2 * tiny},
		{5 * tiny, 5 * tiny, 4 * tiny},
		{tiny, 2 * tiny, tiny}, // a half that is fused into the sum would make it 2 * tiny
		{2 * tiny, tiny, tiny},
	} {
		if got := Mid(c[0], c[1]); !alike(got, c[2]) {
			t.Errorf("Mid(%v, %v) = %v, want %v", c[0], c[1], got, c[2])
		}
	}
}

func TestMidOfWhatHasNoMiddle(t *testing.T) {
	for _, c := range [][2]float64{{nan, 1}, {1, nan}, {nan, nan}, {high, low}, {low, high}} {
		if got := Mid(c[0], c[1]); Class(got) != 0 {
			t.Errorf("Mid(%v, %v) = %v", c[0], c[1], got)
		}
	}
}

// P1.3

func TestLessIsATotalOrder(t *testing.T) {
	for _, a := range ranks {
		for _, b := range ranks {
			held := 0
			for _, is := range []bool{Less(a.x, b.x), Less(b.x, a.x), Same(a.x, b.x)} {
				if is {
					held++
				}
			}
			if held != 1 {
				t.Errorf("%v, %v: %d of less, greater, same hold", a.x, b.x, held)
			}
			for _, c := range ranks {
				if Less(a.x, b.x) && Less(b.x, c.x) && !Less(a.x, c.x) {
					t.Errorf("%v, %v, %v: Less does not go on", a.x, b.x, c.x)
				}
			}
		}
	}
}

func TestSameGoesWithLess(t *testing.T) {
	for _, a := range ranks {
		if !Same(a.x, a.x) {
			t.Errorf("%v is not itself", a.x)
		}
		for _, b := range ranks {
			if !Same(a.x, b.x) {
				continue
			}
			for _, c := range ranks {
				if Less(a.x, c.x) != Less(b.x, c.x) || Less(c.x, a.x) != Less(c.x, b.x) || Same(a.x, c.x) != Same(b.x, c.x) {
					t.Errorf("%v and %v are Same, but not to %v", a.x, b.x, c.x)
				}
			}
		}
	}
}
