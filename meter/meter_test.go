package meter

import (
	"math"
	"slices"
	"testing"

	"sump/float"
)

var (
	nan      = math.NaN()
	otherNaN = math.Float64frombits(0x7ff8000000000abc)
	minusNaN = math.Float64frombits(0xfff8000000000001)
	high     = math.Inf(1)
	low      = math.Inf(-1)
	minus    = math.Copysign(0, -1)
)

const (
	tiny  = math.SmallestNonzeroFloat64
	great = math.MaxFloat64
)

// exactly holds bits against each other, since NaNs and noughts are not told apart by ==.
func exactly(a, b float64) bool {
	return math.Float64bits(a) == math.Float64bits(b)
}

// alike is for what is worked out: there a NaN's bits are left to the machine.
func alike(a, b float64) bool {
	return exactly(a, b) || math.IsNaN(a) && math.IsNaN(b)
}

// none are the lists without items.
func none() [][]float64 {
	return [][]float64{nil, {}, make([]float64, 0, 4), []float64{1, nan}[:0]}
}

// pseudo is a row of floats with many Same ones, NaNs of unlike bits among them.
func pseudo(n int) []float64 {
	some := []float64{low, -great, -2, -1, -tiny, minus, 0, tiny, 1, math.Nextafter(1, 2), 5, great, high, nan}
	l := make([]float64, n)
	x := uint64(88172645463325252)
	for i := range l {
		x ^= x << 13
		x ^= x >> 7
		x ^= x << 17
		l[i] = some[x%uint64(len(some))]
		if math.IsNaN(l[i]) {
			l[i] = math.Float64frombits(0x7ff8000000000000 + uint64(i))
		}
	}
	return l
}

// P3.1

func TestSum(t *testing.T) {
	for _, c := range []struct {
		l    []float64
		want float64
	}{
		{[]float64{7}, 7},
		{[]float64{1, 2, 3.5}, 6.5},
		{[]float64{1, -1}, 0},
		{[]float64{-1, 1}, 0},
		{[]float64{minus}, 0}, // from 0 on
		{[]float64{minus, minus}, 0},
		{[]float64{tiny, tiny}, 2 * tiny},
		{[]float64{tiny, 1, -1}, 0},
		{[]float64{1, -1, tiny}, tiny},
		{[]float64{great, great, -great}, high}, // each rounded
		{[]float64{great, -great, great}, great},
		{[]float64{high, great}, high},
		{[]float64{low, 1, great}, low},
		{[]float64{high, low}, nan},
		{[]float64{low, high, 1}, nan},
		{[]float64{1, nan, 2}, nan},
	} {
		if got := Sum(c.l); !alike(got, c.want) {
			t.Errorf("Sum(%v) = %v, want %v", c.l, got, c.want)
		}
	}
}

// Each of these comes to something else from the right, by pairs, or with what rounding takes away kept.
func TestSumGoesFromTheLeftAndRoundsEach(t *testing.T) {
	one, half := 1.0, 0x1p-53 // half of the step behind 1: added to 1 it is rounded away
	for _, c := range []struct {
		l    []float64
		want float64
	}{
		{[]float64{one, half, half}, 1},
		{[]float64{half, half, one}, 1 + 0x1p-52},
		{[]float64{one, half, half, half, half}, 1},
		{[]float64{half, half, half, half, one}, 1 + 0x1p-51},
		{[]float64{half, one, half, -one}, 0},
		{[]float64{1e16, 1, -1e16}, 0},
		{[]float64{1e16, -1e16, 1}, 1},
		{[]float64{0.1, 0.2, 0.3}, 0.6000000000000001},
		{[]float64{0.3, 0.2, 0.1}, 0.6},
	} {
		if got := Sum(c.l); !exactly(got, c.want) {
			t.Errorf("Sum(%v) = %v, want %v", c.l, got, c.want)
		}
	}
}

func TestMean(t *testing.T) {
	for _, c := range []struct {
		l    []float64
		want float64
	}{
		{[]float64{7}, 7},
		{[]float64{1, 2}, 1.5},
		{[]float64{1, 2, 6}, 3},
		{[]float64{-4, 1, 1}, -2.0 / 3},
		{[]float64{1, 0, 0}, 1.0 / 3},
		{[]float64{minus}, 0},
		{[]float64{minus, minus}, 0},
		{[]float64{-tiny, 0}, minus}, // half of the least is rounded to nought
		{[]float64{3 * tiny, 0}, 2 * tiny},
		{[]float64{great, great}, high}, // the sum comes ahead of the quotient
		{[]float64{great, great, -great, -great}, high},
		{[]float64{great, -great}, 0},
		{[]float64{low, 5}, low},
		{[]float64{high, low}, nan},
		{[]float64{nan, 1}, nan},
	} {
		if got, is := Mean(c.l); !is || !alike(got, c.want) {
			t.Errorf("Mean(%v) = %v, %v, want %v", c.l, got, is, c.want)
		}
	}
}

func TestQuantile(t *testing.T) {
	for _, c := range []struct {
		l        []float64
		num, den int
		want     float64
	}{
		{[]float64{7}, 0, 1, 7},
		{[]float64{7}, 1, 1, 7},
		{[]float64{7}, 999, 1000, 7},
		{[]float64{3, 1, 2}, 0, 1, 1},
		{[]float64{3, 1, 2}, 1, 2, 2},
		{[]float64{3, 1, 2}, 1, 1, 3},
		{[]float64{4, 3, 2, 1}, 1, 2, 2}, // place 1.5, downwards
		{[]float64{4, 3, 2, 1}, 1, 3, 2},
		{[]float64{4, 3, 2, 1}, 2, 3, 3},
		{[]float64{4, 3, 2, 1}, 333, 1000, 1},
		{[]float64{4, 3, 2, 1}, 334, 1000, 2},
		{[]float64{4, 3, 2, 1}, 999, 1000, 3},
		{[]float64{4, 3, 2, 1}, 1000, 1000, 4},
		{[]float64{9, 8, 7, 6, 5}, 3, 4, 8},
		{[]float64{9, 8, 7, 6, 5}, 2, 7, 6},
		{[]float64{0, minus, 0}, 0, 5, minus},
		{[]float64{0, minus, 0}, 1, 2, 0},
		{[]float64{minus, 0, minus}, 1, 2, minus},
		{[]float64{1, nan, low, high}, 0, 3, nan},
		{[]float64{1, nan, low, high}, 1, 3, low},
		{[]float64{1, nan, low, high}, 2, 3, 1},
		{[]float64{1, nan, low, high}, 3, 3, high},
		{[]float64{1, otherNaN, minusNaN, nan}, 0, 3, otherNaN}, // Same ones as they stood
		{[]float64{1, otherNaN, minusNaN, nan}, 1, 3, minusNaN},
		{[]float64{1, otherNaN, minusNaN, nan}, 2, 3, nan},
	} {
		if got, is := Quantile(c.l, c.num, c.den); !is || !exactly(got, c.want) {
			t.Errorf("Quantile(%v, %d, %d) = %v, %v, want %v", c.l, c.num, c.den, got, is, c.want)
		}
	}
}

func TestQuantileOfWhatMayNotBe(t *testing.T) {
	l := []float64{3, 1, 2}
	for _, c := range [][2]int{ // num, den
		{-1, 1},
		{-1, 1000},
		{2, 1},
		{1000, 999},
		{0, 0},
		{1, 0},
		{0, -1},
		{-1, -1},
		{-2, -1},
		{0, 1001},
		{500, 1001},
		{1001, 1000},
		{1001, 1001},
		{math.MaxInt, 1},
		{math.MaxInt, math.MaxInt},
		{0, math.MaxInt},
		{math.MinInt, 1},
		{math.MinInt, math.MinInt},
		{0, math.MinInt},
	} {
		if got, is := Quantile(l, c[0], c[1]); is || !exactly(got, 0) {
			t.Errorf("Quantile(%v, %d, %d) = %v, %v", l, c[0], c[1], got, is)
		}
	}
}

// In a row of its own places the quantile is the place, so that each is told by the words of the chapter.
func TestQuantileByItsWords(t *testing.T) {
	for _, n := range []int{1, 2, 3, 10, 101} {
		l := make([]float64, n)
		for i := range l {
			l[i] = float64(n - 1 - i)
		}
		for _, den := range []int{1, 2, 3, 4, 7, 100, 101, 999, 1000} {
			for num := range den + 1 {
				want := math.Floor(float64(num*(n-1)) / float64(den))
				if got, is := Quantile(l, num, den); !is || got != want {
					t.Fatalf("Quantile of %d, %d by %d = %v, %v, want %v", n, num, den, got, is, want)
				}
			}
		}
	}
}

func TestMedian(t *testing.T) {
	for _, c := range []struct {
		l    []float64
		want float64
	}{
		{[]float64{7}, 7},
		{[]float64{3, 1}, 2},
		{[]float64{9, 1, 2}, 2},
		{[]float64{4, 1, 3, 2}, 2.5},
		{[]float64{5, 5, 1, 9, 5}, 5},
		{[]float64{100, -1, 0, 7, 8, -50}, 3.5},
		{[]float64{minus}, minus},
		{[]float64{minus, minus}, minus},
		{[]float64{0, minus}, 0},
		{[]float64{0, minus, minus}, minus},
		{[]float64{0, minus, 0}, 0},
		{[]float64{1e308, 1e308}, 1e308},   // a sum ahead of the quotient would be infinite
		{[]float64{tiny, tiny}, 0},         // each half is rounded by itself
		{[]float64{tiny, 2 * tiny}, tiny},  // and here, too
		{[]float64{3 * tiny, 0}, 2 * tiny}, // and here
		{[]float64{great, -great, high}, great},
		{[]float64{high, low}, nan},
		{[]float64{high, low, low}, low},
		{[]float64{1, high}, high},
		{[]float64{1, nan}, nan},
		{[]float64{1, nan, 2}, 1},
		{[]float64{1, nan, 2, nan}, nan},
		{[]float64{1, nan, 2, 3}, 1.5},
	} {
		if got, is := Median(c.l); !is || !alike(got, c.want) {
			t.Errorf("Median(%v) = %v, %v, want %v", c.l, got, is, c.want)
		}
	}
}

func TestMedianTellsTheMiddleOneWithItsBits(t *testing.T) {
	if got, is := Median([]float64{otherNaN, minusNaN, nan}); !is || !exactly(got, minusNaN) {
		t.Errorf("bits %x, %v", math.Float64bits(got), is)
	}
}

func TestMedianByItsWords(t *testing.T) {
	for n := 1; n < 60; n++ {
		l := pseudo(n)
		sorted := float.Sort(l)
		want := sorted[(n-1)/2]
		if n%2 == 0 {
			want = float.Mid(sorted[n/2-1], sorted[n/2])
		}
		if got, is := Median(l); !is || !alike(got, want) {
			t.Errorf("Median of %d = %v, %v, want %v", n, got, is, want)
		}
	}
}

func TestSumMeanQuantileAndMedianOfNone(t *testing.T) {
	for _, l := range none() {
		if got := Sum(l); !exactly(got, 0) {
			t.Errorf("Sum = %v", got)
		}
		if got, is := Mean(l); is || !exactly(got, 0) {
			t.Errorf("Mean = %v, %v", got, is)
		}
		if got, is := Median(l); is || !exactly(got, 0) {
			t.Errorf("Median = %v, %v", got, is)
		}
		for _, c := range [][2]int{{0, 1}, {1, 2}, {1, 1}, {1000, 1000}, {-1, 1}, {0, 0}} {
			if got, is := Quantile(l, c[0], c[1]); is || !exactly(got, 0) {
				t.Errorf("Quantile(%v) = %v, %v", c, got, is)
			}
		}
	}
}

// P3.2

func TestBoxes(t *testing.T) {
	for _, c := range []struct {
		l, edges []float64
		want     []int
	}{
		{[]float64{1, 2, 3}, []float64{2}, []int{1, 2}},
		{[]float64{1, 2, 3}, nil, []int{3}},
		{nil, nil, []int{0}},
		{nil, []float64{1, 2}, []int{0, 0, 0}},
		{[]float64{1, 2, 3, 4, 5}, []float64{2, 4}, []int{1, 2, 2}},
		{[]float64{5, 4, 3, 2, 1}, []float64{4, 2}, []int{1, 2, 2}}, // the edges are sorted
		{[]float64{2}, []float64{5, 1, 3}, []int{0, 1, 0, 0}},
		{[]float64{1, 1, 1}, []float64{1}, []int{0, 3}},
		{[]float64{1, 2, 3}, []float64{2, 2}, []int{1, 0, 2}}, // nothing is between Same edges
		{[]float64{1, 2, 3}, []float64{2, 3, 2, 2}, []int{1, 0, 0, 1, 1}},
		{[]float64{0, minus, 0}, []float64{0}, []int{1, 2}},
		{[]float64{0, minus, 0}, []float64{minus}, []int{0, 3}},
		{[]float64{0, minus, 0, -1, 1}, []float64{0, minus}, []int{1, 1, 3}},
		{[]float64{nan, otherNaN, low, 1}, []float64{nan}, []int{0, 4}},
		{[]float64{nan, minusNaN, low, 1}, []float64{low}, []int{2, 2}},
		{[]float64{nan, low, 1, high}, []float64{1, nan, otherNaN}, []int{0, 0, 2, 2}},
		{[]float64{nan, low, great, high}, []float64{high, low}, []int{1, 2, 1}},
		{[]float64{-tiny, tiny, 0, minus}, []float64{0, tiny}, []int{2, 1, 1}},
	} {
		if got := Boxes(c.l, c.edges); !slices.Equal(got, c.want) {
			t.Errorf("Boxes(%v, %v) = %v, want %v", c.l, c.edges, got, c.want)
		}
	}
}

// byTheWords goes through each box's bounds by themselves.
func byTheWords(l, edges []float64) []int {
	sorted := float.Sort(edges)
	boxes := make([]int, len(sorted)+1)
	for i := range boxes {
		for _, x := range l {
			if (i == 0 || !float.Less(x, sorted[i-1])) && (i == len(sorted) || float.Less(x, sorted[i])) {
				boxes[i]++
			}
		}
	}
	return boxes
}

func TestBoxesByTheirWords(t *testing.T) {
	for _, n := range []int{0, 1, 2, 7, 30, 100} {
		whole := pseudo(n + 40)
		for edges := range 40 {
			l, e := whole[edges:edges+n], whole[:edges]
			got := Boxes(l, e)
			if want := byTheWords(l, e); !slices.Equal(got, want) {
				t.Fatalf("Boxes(%v, %v) = %v, want %v", l, e, got, want)
			}
			all := 0
			for _, many := range got {
				all += many
			}
			if all != n {
				t.Fatalf("Boxes(%v, %v) = %v: %d in all", l, e, got, all)
			}
		}
	}
}

func TestCount(t *testing.T) {
	for _, c := range []struct {
		l    []float64
		want [7]int
	}{
		{[]float64{nan}, [7]int{1}},
		{[]float64{low}, [7]int{0, 1}},
		{[]float64{-tiny}, [7]int{0, 0, 1}},
		{[]float64{minus}, [7]int{0, 0, 0, 1}},
		{[]float64{0}, [7]int{0, 0, 0, 0, 1}},
		{[]float64{tiny}, [7]int{0, 0, 0, 0, 0, 1}},
		{[]float64{high}, [7]int{0, 0, 0, 0, 0, 0, 1}},
		{[]float64{nan, otherNaN, minusNaN, -great, -1, 5, 0, high}, [7]int{3, 0, 2, 0, 1, 1, 1}},
		{[]float64{high, great, 1, 0, minus, -1, low, nan}, [7]int{1, 1, 1, 1, 1, 2, 1}},
	} {
		if got := Count(c.l); got != c.want {
			t.Errorf("Count(%v) = %v, want %v", c.l, got, c.want)
		}
	}
}

func TestCountGoesByClass(t *testing.T) {
	for n := range 60 {
		var want [7]int
		for _, x := range pseudo(n) {
			want[float.Class(x)]++
		}
		if got := Count(pseudo(n)); got != want {
			t.Errorf("Count of %d = %v, want %v", n, got, want)
		}
	}
}

func TestRank(t *testing.T) {
	l := []float64{3, nan, 1, 0, low, 3, minus, high, otherNaN}
	for _, c := range []struct {
		x    float64
		want int
	}{
		{nan, 0},
		{minusNaN, 0},
		{low, 2},
		{-great, 3},
		{minus, 3},
		{0, 4},
		{tiny, 5},
		{1, 5},
		{2, 6},
		{3, 6},
		{math.Nextafter(3, 4), 8},
		{great, 8},
		{high, 8},
	} {
		if got := Rank(l, c.x); got != c.want {
			t.Errorf("Rank(%v) = %d, want %d", c.x, got, c.want)
		}
	}
}

// What is below x is what is in the box ahead of x, and as many stand ahead of x in the sorted list.
func TestRankGoesWithBoxesAndSort(t *testing.T) {
	for n := range 40 {
		l := pseudo(n)
		sorted := float.Sort(l)
		for _, x := range append(pseudo(50), nan, minusNaN) {
			rank := Rank(l, x)
			if ahead := Boxes(l, []float64{x})[0]; rank != ahead {
				t.Fatalf("Rank(%v, %v) = %d, but %d in the box", l, x, rank, ahead)
			}
			for i, y := range sorted {
				if float.Less(y, x) != (i < rank) {
					t.Fatalf("Rank(%v, %v) = %d", l, x, rank)
				}
			}
		}
	}
}

func TestBoxesCountAndRankOfNone(t *testing.T) {
	for _, l := range none() {
		for _, edges := range none() {
			if got := Boxes(l, edges); !slices.Equal(got, []int{0}) {
				t.Errorf("Boxes = %v", got)
			}
			if got := Boxes([]float64{nan, 2}, edges); !slices.Equal(got, []int{2}) {
				t.Errorf("Boxes = %v", got)
			}
		}
		if got := Boxes(l, []float64{nan, 2}); !slices.Equal(got, []int{0, 0, 0}) {
			t.Errorf("Boxes = %v", got)
		}
		if got := Count(l); got != [7]int{} {
			t.Errorf("Count = %v", got)
		}
		for _, x := range []float64{nan, low, 0, high} {
			if got := Rank(l, x); got != 0 {
				t.Errorf("Rank(%v) = %d", x, got)
			}
		}
	}
}

// P3.1 and P3.2, by the rules that hold everywhere

func TestListsThatAreHandedInStayAsTheyWere(t *testing.T) {
	list := []float64{5, nan, 2, minus, 0, low, 9, high, -4}
	rim := []float64{3, 8, otherNaN, 1, 0, minus, 2}
	keptList, keptRim := slices.Clone(list), slices.Clone(rim)
	l, edges := list[1:6], rim[1:5]
	Sum(l)
	Mean(l)
	Quantile(l, 1, 2)
	Median(l)
	Median(l[1:])
	Boxes(l, edges)
	Boxes(l, l)
	Count(l)
	Rank(l, 1)
	if !slices.EqualFunc(list, keptList, exactly) || !slices.EqualFunc(rim, keptRim, exactly) {
		t.Errorf("changed to %v, %v", list, rim)
	}
}

func TestNothingBehindTheLengthIsRead(t *testing.T) {
	l := []float64{2, 4, nan, high, -8}[:2]
	edges := []float64{3, low, 1, nan}[:1]
	if got := Sum(l); got != 6 {
		t.Errorf("Sum = %v", got)
	}
	if got, _ := Mean(l); got != 3 {
		t.Errorf("Mean = %v", got)
	}
	if got, _ := Quantile(l, 1, 1); got != 4 {
		t.Errorf("Quantile = %v", got)
	}
	if got, _ := Median(l); got != 3 {
		t.Errorf("Median = %v", got)
	}
	if got := Boxes(l, edges); !slices.Equal(got, []int{1, 1}) {
		t.Errorf("Boxes = %v", got)
	}
	if got := Count(l); got != [7]int{0, 0, 0, 0, 0, 2} {
		t.Errorf("Count = %v", got)
	}
	if got := Rank(l, 3); got != 1 {
		t.Errorf("Rank = %v", got)
	}
}

func TestBoxesAreAListOfTheirOwn(t *testing.T) {
	l, edges := []float64{1, 2, 3}, []float64{2}
	got := Boxes(l, edges)
	again := Boxes(l, edges)
	got[0] = 50
	_ = append(got[:1], 60)
	if !slices.Equal(again, []int{1, 2}) || !slices.Equal(Boxes(l, edges), []int{1, 2}) {
		t.Errorf("answers share: %v", again)
	}
}
