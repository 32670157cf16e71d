package extent

import (
	"slices"
	"sync"
	"testing"

	"sump/api"
)

const (
	greatest = int(^uint(0) >> 1)
	least    = -greatest - 1
	most     = 1048576
)

// draw is a row of numbers that is the same each time.
func draw(seed uint64) func(below int) int {
	x := seed*2862933555777941757 + 88172645463325252
	return func(below int) int {
		x ^= x << 13
		x ^= x >> 7
		x ^= x << 17
		return int(x >> 20 % uint64(below))
	}
}

// row is short for extents that are written out.
func row(l ...[3]int) []api.Extent {
	var out []api.Extent
	for _, e := range l {
		out = append(out, api.Extent{From: e[0], Len: e[1], Page: e[2]})
	}
	return out
}

// plainRight is P13.1, word by word. All numbers are held against the most ahead of any sum of them.
func plainRight(l []api.Extent) bool {
	for i, e := range l {
		if e.From < 0 || e.Len < 1 || e.Page < 1 {
			return false
		}
		if e.From > most || e.Len > most || e.Page > most {
			return false
		}
		if e.From+e.Len > most || e.Page+e.Len > most {
			return false
		}
		if i == 0 {
			continue
		}
		a := l[i-1]
		if e.From <= a.From || e.From < a.From+a.Len {
			return false
		}
		if a.From+a.Len == e.From && a.Page+a.Len == e.Page {
			return false
		}
	}
	return true
}

// plainRows goes from each place that begins a row to the one that ends it.
func plainRows(pages []int, in func(page int) bool, goesOn func(page, next int) bool) [][2]int {
	var l [][2]int
	for i := 0; i < len(pages); {
		if !in(pages[i]) {
			i++
			continue
		}
		j := i + 1
		for j < len(pages) && in(pages[j]) && goesOn(pages[j-1], pages[j]) {
			j++
		}
		l = append(l, [2]int{i, j})
		i = j
	}
	return l
}

func plainOf(pages []int) []api.Extent {
	var out []api.Extent
	used := func(page int) bool { return page > 0 }
	for _, r := range plainRows(pages, used, func(page, next int) bool { return next-1 == page }) {
		out = append(out, api.Extent{From: r[0], Len: r[1] - r[0], Page: pages[r[0]]})
	}
	return out
}

func plainHoles(pages []int) []api.Extent {
	var out []api.Extent
	none := func(page int) bool { return page < 1 }
	for _, r := range plainRows(pages, none, func(int, int) bool { return true }) {
		out = append(out, api.Extent{From: r[0], Len: r[1] - r[0]})
	}
	return out
}

// first has the first n pages, with holes behind the last.
func first(pages []int, n int) []int {
	out := make([]int, max(n, 0))
	copy(out, pages)
	return out
}

func with(pages []int, i, page int) []int {
	out := first(pages, max(len(pages), i+1))
	out[i] = page
	return out
}

func many(pages []int) int {
	n := 0
	for _, page := range pages {
		if page > 0 {
			n++
		}
	}
	return n
}

// alike holds all that l tells against what a file of these pages should tell.
func alike(t *testing.T, l []api.Extent, pages []int) {
	t.Helper()
	if !Right(l) || !slices.Equal(l, plainOf(pages)) {
		t.Fatal(pages, l)
	}
	if Len(l) != many(pages) {
		t.Fatal(pages, "len", Len(l))
	}
	for n := -1; n <= len(pages)+2; n++ {
		if got := Pages(l, n); !slices.Equal(got, first(pages, n)) {
			t.Fatal(pages, "pages", n, got)
		}
		if got := Holes(l, n); !slices.Equal(got, plainHoles(first(pages, n))) {
			t.Fatal(pages, "holes", n, got)
		}
		if n < 0 {
			continue
		}
		if got := At(l, n); got != first(pages, n+1)[n] {
			t.Fatal(pages, "at", n, got)
		}
		if got := Cut(l, n); !Right(got) || !slices.Equal(got, plainOf(first(pages, n))) {
			t.Fatal(pages, "cut", n, got)
		}
	}
}

// everySmall tells each list of fewer than n pages, each of them below top.
func everySmall(n, top int, tell func(pages []int)) {
	var more func(pages []int)
	more = func(pages []int) {
		tell(pages)
		if len(pages) == n-1 {
			return
		}
		for page := range top {
			more(append(slices.Clone(pages), page))
		}
	}
	more(nil)
}

// wrong are lists that aren't Right, each by one thing.
func wrong() [][]api.Extent {
	return [][]api.Extent{
		row([3]int{-1, 1, 1}),
		row([3]int{0, 0, 1}),
		row([3]int{0, -1, 1}),
		row([3]int{0, 1, 0}),
		row([3]int{0, 1, -1}),
		row([3]int{most, 1, 1}),
		row([3]int{0, 1, most}),
		row([3]int{0, most + 1, 1}),
		row([3]int{0, most, 1}),
		row([3]int{1, most, 1}),
		row([3]int{0, 2, most - 1}),
		row([3]int{most - 1, 2, 1}),
		row([3]int{greatest, 1, 1}),
		row([3]int{0, greatest, 1}),
		row([3]int{0, 1, greatest}),
		row([3]int{greatest, greatest, greatest}),
		row([3]int{least, 1, 1}),
		row([3]int{0, least, 1}),
		row([3]int{0, 1, least}),
		row([3]int{3, 1, 1}, [3]int{1, 1, 5}),
		row([3]int{1, 1, 1}, [3]int{1, 1, 5}),
		row([3]int{1, 2, 1}, [3]int{2, 1, 5}),
		row([3]int{1, 2, 1}, [3]int{3, 1, 3}),
		row([3]int{0, 1, 1}, [3]int{2, 1, 1}, [3]int{3, 1, 2}),
		row([3]int{0, 1, 1}, [3]int{2, 0, 1}, [3]int{4, 1, 2}),
		row([3]int{0, 1, 1}, [3]int{2, 1, 1}, [3]int{-4, 1, 2}),
	}
}

// P13.1: Right.

func TestRightOfNone(t *testing.T) {
	if !Right(nil) || !Right([]api.Extent{}) || !Right(wrong()[0][:0]) {
		t.Error("none isn't Right")
	}
}

func TestRight(t *testing.T) {
	for _, l := range [][]api.Extent{
		row([3]int{0, 2, 5}, [3]int{3, 1, 7}),
		row([3]int{0, 1, 1}),
		row([3]int{0, most - 1, 1}),
		row([3]int{1, most - 1, 1}),
		row([3]int{most - 1, 1, 1}),
		row([3]int{0, 1, most - 1}),
		row([3]int{most - 1, 1, most - 1}),
		row([3]int{most - 2, 2, most - 2}),
		row([3]int{1, 2, 1}, [3]int{3, 1, 4}),
		row([3]int{1, 2, 1}, [3]int{3, 1, 2}),
		row([3]int{1, 2, 1}, [3]int{3, 1, 1}),
		row([3]int{1, 2, 1}, [3]int{4, 1, 3}),
		row([3]int{1, 2, 9}, [3]int{3, 2, 7}, [3]int{5, 2, 5}),
	} {
		if !Right(l) {
			t.Error(l)
		}
	}
	for _, l := range wrong() {
		if Right(l) {
			t.Error(l)
		}
	}
}

func TestRightOfOneAtAllEdges(t *testing.T) {
	edges := []int{least, least + 1, -most, -1, 0, 1, 2, 3, most/2 - 1, most / 2, most/2 + 1, most - 3, most - 2, most - 1, most, most + 1, most + 2, greatest - most, greatest - 1, greatest}
	for _, from := range edges {
		for _, length := range edges {
			for _, page := range edges {
				l := row([3]int{from, length, page})
				if Right(l) != plainRight(l) {
					t.Fatal(l, Right(l))
				}
			}
		}
	}
}

func TestRightOfTwo(t *testing.T) {
	ahead := row([3]int{3, 2, 4})
	for from := -1; from <= 8; from++ {
		for length := -1; length <= 4; length++ {
			for page := -1; page <= 9; page++ {
				l := append(slices.Clone(ahead), row([3]int{from, length, page})...)
				if Right(l) != plainRight(l) {
					t.Fatal(l, Right(l))
				}
				slices.Reverse(l)
				if Right(l) != plainRight(l) {
					t.Fatal(l, Right(l))
				}
			}
		}
	}
}

func TestRightOfEachFieldWrong(t *testing.T) {
	whole := row([3]int{0, 2, 5}, [3]int{2, 3, 1}, [3]int{7, 1, 4}, [3]int{8, 2, 6})
	for i := range whole {
		for _, x := range []int{least, -1, 0, 1, 2, 3, 5, 7, 8, most - 2, most - 1, most, greatest} {
			for field := range 3 {
				l := slices.Clone(whole)
				fields := []*int{&l[i].From, &l[i].Len, &l[i].Page}
				*fields[field] = x
				if Right(l) != plainRight(l) {
					t.Fatal(l, Right(l))
				}
			}
		}
	}
}

// P13.2: Of.

func TestOf(t *testing.T) {
	for _, c := range []struct {
		pages []int
		want  []api.Extent
	}{
		{[]int{5, 6, 0, 7}, row([3]int{0, 2, 5}, [3]int{3, 1, 7})},
		{nil, nil},
		{[]int{0, 0}, nil},
		{[]int{-1, least, 0}, nil},
		{[]int{1, 2, 3}, row([3]int{0, 3, 1})},
		{[]int{3, 2, 1}, row([3]int{0, 1, 3}, [3]int{1, 1, 2}, [3]int{2, 1, 1})},
		{[]int{4, 4}, row([3]int{0, 1, 4}, [3]int{1, 1, 4})},
		{[]int{4, 6}, row([3]int{0, 1, 4}, [3]int{1, 1, 6})},
		{[]int{4, 0, 5}, row([3]int{0, 1, 4}, [3]int{2, 1, 5})},
		{[]int{4, 0, 6}, row([3]int{0, 1, 4}, [3]int{2, 1, 6})},
		{[]int{0, 1, 2, 0}, row([3]int{1, 2, 1})},
		{[]int{-1, 0, 1, 2, -3, 4}, row([3]int{2, 2, 1}, [3]int{5, 1, 4})},
		{[]int{most - 2, most - 1}, row([3]int{0, 2, most - 2})},
		{[]int{most - 1, most, most + 1}, row([3]int{0, 3, most - 1})},
		{[]int{greatest - 1, greatest, least, least + 1, 1}, row([3]int{0, 2, greatest - 1}, [3]int{4, 1, 1})},
	} {
		if l := Of(c.pages); !slices.Equal(l, c.want) {
			t.Error(c.pages, l)
		}
	}
}

func TestEverySmallOne(t *testing.T) {
	everySmall(6, 6, func(pages []int) {
		alike(t, Of(pages), pages)
	})
}

// P13.2: Put.

func TestPut(t *testing.T) {
	whole := row([3]int{1, 3, 5}, [3]int{5, 1, 9})
	for _, c := range []struct {
		i, page int
		want    []api.Extent
	}{
		{0, 4, row([3]int{0, 4, 4}, [3]int{5, 1, 9})},
		{0, 3, row([3]int{0, 1, 3}, [3]int{1, 3, 5}, [3]int{5, 1, 9})},
		{0, 0, whole},
		{1, 0, row([3]int{2, 2, 6}, [3]int{5, 1, 9})},
		{2, 0, row([3]int{1, 1, 5}, [3]int{3, 1, 7}, [3]int{5, 1, 9})},
		{2, 6, whole},
		{2, 7, row([3]int{1, 1, 5}, [3]int{2, 1, 7}, [3]int{3, 1, 7}, [3]int{5, 1, 9})},
		{3, 0, row([3]int{1, 2, 5}, [3]int{5, 1, 9})},
		{4, 8, row([3]int{1, 5, 5})},
		{4, 7, row([3]int{1, 3, 5}, [3]int{4, 1, 7}, [3]int{5, 1, 9})},
		{5, 0, row([3]int{1, 3, 5})},
		{5, 8, row([3]int{1, 3, 5}, [3]int{5, 1, 8})},
		{6, 10, row([3]int{1, 3, 5}, [3]int{5, 2, 9})},
		{7, 11, row([3]int{1, 3, 5}, [3]int{5, 1, 9}, [3]int{7, 1, 11})},
		{most - 1, most - 1, row([3]int{1, 3, 5}, [3]int{5, 1, 9}, [3]int{most - 1, 1, most - 1})},
		{most - 1, 0, whole},
		{most, 1, whole},
		{most, 0, whole},
		{greatest, 1, whole},
		{-1, 1, whole},
		{least, 1, whole},
		{2, most, whole},
		{2, most - 1, row([3]int{1, 1, 5}, [3]int{2, 1, most - 1}, [3]int{3, 1, 7}, [3]int{5, 1, 9})},
		{2, -1, whole},
		{2, least, whole},
		{2, greatest, whole},
	} {
		if l := Put(whole, c.i, c.page); !slices.Equal(l, c.want) || !Right(l) {
			t.Error(c.i, c.page, l)
		}
	}
}

func TestPutAtTheEnd(t *testing.T) {
	l := row([3]int{1, most - 1, 1})
	if got := Put(l, 0, 1); !slices.Equal(got, row([3]int{0, 1, 1}, [3]int{1, most - 1, 1})) {
		t.Error(got)
	}
	if got := Put(l, most-1, 0); !slices.Equal(got, row([3]int{1, most - 2, 1})) {
		t.Error(got)
	}
	l = Put(Put(nil, most-1, most-1), most-2, most-2)
	if !slices.Equal(l, row([3]int{most - 2, 2, most - 2})) || !Right(l) {
		t.Error(l)
	}
}

func TestPutIntoEverySmallOne(t *testing.T) {
	everySmall(5, 6, func(pages []int) {
		l := Of(pages)
		for i := range len(pages) + 3 {
			for page := range 7 {
				got, want := Put(l, i, page), plainOf(with(pages, i, page))
				if !slices.Equal(got, want) || !Right(got) {
					t.Fatal(pages, i, page, got, want)
				}
			}
		}
	})
}

// P13.2: Cut, At, Len, Pages and Holes.

func TestCut(t *testing.T) {
	whole := row([3]int{1, 3, 5}, [3]int{5, 2, 9}, [3]int{most - 2, 2, 3})
	for _, c := range []struct {
		n    int
		want []api.Extent
	}{
		{least, whole},
		{-1, whole},
		{0, nil},
		{1, nil},
		{2, row([3]int{1, 1, 5})},
		{4, row([3]int{1, 3, 5})},
		{5, row([3]int{1, 3, 5})},
		{6, row([3]int{1, 3, 5}, [3]int{5, 1, 9})},
		{7, row([3]int{1, 3, 5}, [3]int{5, 2, 9})},
		{most - 2, row([3]int{1, 3, 5}, [3]int{5, 2, 9})},
		{most - 1, row([3]int{1, 3, 5}, [3]int{5, 2, 9}, [3]int{most - 2, 1, 3})},
		{most, whole},
		{most + 1, whole},
		{greatest, whole},
	} {
		if l := Cut(whole, c.n); !slices.Equal(l, c.want) {
			t.Error(c.n, l)
		}
	}
}

func TestAt(t *testing.T) {
	l := row([3]int{1, 3, 5}, [3]int{5, 2, 9}, [3]int{most - 2, 2, 3})
	for _, c := range []struct{ i, want int }{
		{least, 0}, {-1, 0}, {0, 0}, {1, 5}, {2, 6}, {3, 7}, {4, 0}, {5, 9}, {6, 10}, {7, 0},
		{most - 3, 0}, {most - 2, 3}, {most - 1, 4}, {most, 0}, {most + 1, 0}, {greatest, 0},
	} {
		if page := At(l, c.i); page != c.want {
			t.Error(c.i, page)
		}
	}
}

func TestLen(t *testing.T) {
	for _, c := range []struct {
		l    []api.Extent
		want int
	}{
		{nil, 0},
		{row([3]int{4, 1, 4}), 1},
		{row([3]int{0, 2, 5}, [3]int{3, 1, 7}), 3},
		{row([3]int{1, 3, 5}, [3]int{5, 2, 5}, [3]int{most - 2, 2, 5}), 7},
		{row([3]int{0, most - 1, 1}), most - 1},
		{row([3]int{0, 1, 7}, [3]int{1, most - 1, 1}), most},
	} {
		if n := Len(c.l); n != c.want {
			t.Error(c.l, n)
		}
	}
}

func TestPagesBetweenItsEnds(t *testing.T) {
	l := row([3]int{1, 2, 5}, [3]int{most - 1, 1, 9})
	for _, n := range []int{least, -1, 0, most + 1, greatest} {
		if pages := Pages(l, n); len(pages) != 0 {
			t.Error(n, len(pages))
		}
	}
	if pages := Pages(l, 1); !slices.Equal(pages, []int{0}) {
		t.Error(pages)
	}
	if pages := Pages(nil, 2); !slices.Equal(pages, []int{0, 0}) {
		t.Error(pages)
	}
	if pages := Pages(l, 4); !slices.Equal(pages, []int{0, 5, 6, 0}) {
		t.Error(pages)
	}
	for _, n := range []int{most - 1, most} {
		pages := Pages(l, n)
		if len(pages) != n || !slices.Equal(plainOf(pages), plainOf(first(with([]int{0, 5, 6}, most-1, 9), n))) {
			t.Error(n, len(pages))
		}
	}
}

func TestHoles(t *testing.T) {
	l := row([3]int{1, 2, 5}, [3]int{3, 1, 9}, [3]int{6, 1, 1}, [3]int{most - 1, 1, 9})
	for _, c := range []struct {
		l    []api.Extent
		n    int
		want []api.Extent
	}{
		{l, least, nil},
		{l, -1, nil},
		{l, 0, nil},
		{l, 1, row([3]int{0, 1, 0})},
		{l, 2, row([3]int{0, 1, 0})},
		{l, 4, row([3]int{0, 1, 0})},
		{l, 5, row([3]int{0, 1, 0}, [3]int{4, 1, 0})},
		{l, 6, row([3]int{0, 1, 0}, [3]int{4, 2, 0})},
		{l, 7, row([3]int{0, 1, 0}, [3]int{4, 2, 0})},
		{l, 9, row([3]int{0, 1, 0}, [3]int{4, 2, 0}, [3]int{7, 2, 0})},
		{l, most - 1, row([3]int{0, 1, 0}, [3]int{4, 2, 0}, [3]int{7, most - 8, 0})},
		{l, most, row([3]int{0, 1, 0}, [3]int{4, 2, 0}, [3]int{7, most - 8, 0})},
		{l, most + 5, row([3]int{0, 1, 0}, [3]int{4, 2, 0}, [3]int{7, most - 8, 0}, [3]int{most, 5, 0})},
		{nil, -1, nil},
		{nil, 0, nil},
		{nil, 3, row([3]int{0, 3, 0})},
		{nil, most, row([3]int{0, most, 0})},
		{nil, greatest, row([3]int{0, greatest, 0})},
		{row([3]int{0, 3, 2}), 3, nil},
		{row([3]int{0, 3, 2}), 2, nil},
	} {
		if got := Holes(c.l, c.n); !slices.Equal(got, c.want) {
			t.Error(c.l, c.n, got)
		}
	}
}

// P13.2: what isn't Right.

func TestWhatIsNotRight(t *testing.T) {
	for _, l := range wrong() {
		for _, x := range []int{least, -1, 0, 1, 2, 3, most - 1, most, greatest} {
			if len(Pages(l, x)) != 0 || len(Holes(l, x)) != 0 || At(l, x) != 0 || Len(l) != 0 {
				t.Error(l, x, "tells something")
			}
			if got := Cut(l, x); !slices.Equal(got, l) {
				t.Error(l, "cut", x, got)
			}
			for _, page := range []int{least, -1, 0, 1, most - 1, most, greatest} {
				if got := Put(l, x, page); !slices.Equal(got, l) {
					t.Error(l, "put", x, page, got)
				}
			}
		}
	}
}

// P13.2: any calls, one behind the other.

func TestAnyCalls(t *testing.T) {
	for seed := range uint64(300) {
		next := draw(seed)
		var l []api.Extent
		var pages []int
		base := []int{1, 1, 40, most - 9}[next(4)]
		for range 80 {
			i := next(24)
			switch next(12) {
			case 0:
				l, pages = Cut(l, i), first(pages, min(i, len(pages)))
			case 1, 2, 3:
				l, pages = Put(l, i, 0), with(pages, i, 0)
			case 4, 5, 6, 7:
				page := base + next(9)
				l, pages = Put(l, i, page), with(pages, i, page)
			default:
				page := 3 + i
				l, pages = Put(l, i, page), with(pages, i, page)
			}
			if !slices.Equal(l, plainOf(pages)) {
				t.Fatal(seed, l, pages)
			}
		}
		alike(t, l, pages)
	}
}

// P13.3: there and back.

func TestPagesOfOf(t *testing.T) {
	for seed := range uint64(400) {
		next := draw(seed)
		pages := make([]int, next(200))
		for i := range pages {
			switch next(4) {
			case 0:
				pages[i] = next(4)
			case 1:
				pages[i] = most - 1 - next(4)
			default:
				pages[i] = (first(pages, i+1)[max(i-1, 0)] + 1) % most
			}
		}
		l := Of(pages)
		if got := Pages(l, len(pages)); !slices.Equal(got, pages) || !Right(l) {
			t.Fatal(seed, pages, got)
		}
	}
}

func TestPagesOfOfTheMost(t *testing.T) {
	rising, falling, even := make([]int, most), make([]int, most), make([]int, most)
	for i := range most {
		rising[i], falling[i] = i, most-1-i
		if i%2 == 0 {
			even[i] = i
		}
	}
	for _, c := range []struct {
		pages []int
		many  int
	}{{rising, 1}, {falling, most - 1}, {even, most/2 - 1}} {
		l := Of(c.pages)
		if len(l) != c.many || !Right(l) || !slices.Equal(Pages(l, most), c.pages) {
			t.Error(len(l), c.many)
		}
	}
}

func TestOfOfPages(t *testing.T) {
	for seed := range uint64(2000) {
		next := draw(seed)
		var l []api.Extent
		at := 0
		for range next(6) {
			e := api.Extent{From: at + next(3), Len: 1 + next(3), Page: 1 + next(6)}
			if next(20) == 0 {
				e.From, e.Len, e.Page = next(9)-2, next(5)-1, next(5)-1
			}
			l, at = append(l, e), e.From+e.Len
		}
		n := next(30) - 3
		back := Of(Pages(l, n))
		if !Right(back) {
			t.Fatal(seed, l, n, back)
		}
		if Right(l) && n >= at && n > 0 && !slices.Equal(back, l) {
			t.Fatal(seed, l, n, back)
		}
	}
	for _, l := range wrong() {
		if back := Of(Pages(l, 10)); len(back) != 0 || !Right(back) {
			t.Error(l, back)
		}
	}
}

// Rules that hold everywhere: P2 and P3.

func TestArgumentsStayAsTheyAre(t *testing.T) {
	for _, right := range []bool{true, false} {
		whole := row([3]int{1, 3, 5}, [3]int{5, 1, 9}, [3]int{7, 2, 8}, [3]int{4, 4, 4})
		if !right {
			whole[1].Len = 0
		}
		before := slices.Clone(whole)
		l := whole[:2]
		for x := -1; x <= 9; x++ {
			Pages(l, x)
			At(l, x)
			Cut(l, x)
			Holes(l, x)
			for page := -1; page <= 11; page++ {
				Put(l, x, page)
			}
		}
		Len(l)
		if !slices.Equal(whole, before) {
			t.Error(right, whole)
		}
	}
	pages := []int{1, 2, 0, 3, 4}
	if l := Of(pages[:3]); !slices.Equal(l, row([3]int{0, 2, 1})) || !slices.Equal(pages, []int{1, 2, 0, 3, 4}) {
		t.Error(l, pages)
	}
}

func TestWhatLiesBehindIsNotRead(t *testing.T) {
	whole := row([3]int{1, 3, 5}, [3]int{4, 1, 9}, [3]int{0, 0, 0})
	l := whole[:1]
	if !Right(l) || Len(l) != 3 || At(l, 4) != 0 || !slices.Equal(Put(l, 5, 0), l) || !slices.Equal(Cut(l, 9), l) {
		t.Error(l)
	}
}

// spoil writes over all that a list has room for.
func spoil(l []api.Extent) {
	l = l[:cap(l)]
	for i := range l {
		l[i] = api.Extent{From: -7, Len: -7, Page: -7}
	}
}

func TestAnswersAreTheirOwn(t *testing.T) {
	for _, l := range append(wrong(), nil, row([3]int{1, 3, 5}, [3]int{5, 1, 9})) {
		l = append(slices.Clone(l), api.Extent{From: 100, Len: 1, Page: 1})[:len(l)]
		before := slices.Clone(l[:cap(l)])
		for _, x := range []int{-1, 0, 2, 4, 6, 9, most} {
			for _, page := range []int{-1, 0, 6, 9} {
				spoil(Put(l, x, page))
			}
			spoil(Cut(l, x))
			spoil(Holes(l, x))
			pages := Pages(l, x)
			clear(pages[:cap(pages)])
		}
		if !slices.Equal(l[:cap(l)], before) {
			t.Error(before, l)
		}
	}
	pages := []int{1, 2}
	spoil(Of(pages))
	if !slices.Equal(pages, []int{1, 2}) || !slices.Equal(Of(pages), row([3]int{0, 2, 1})) {
		t.Error(pages)
	}
}

func TestNilIsLikeEmpty(t *testing.T) {
	none := []api.Extent{}
	if len(Of(nil)) != 0 || len(Of([]int{})) != 0 || len(Cut(none, 3)) != 0 || len(Cut(nil, -1)) != 0 || Len(none) != 0 {
		t.Error("none tells something")
	}
	if !slices.Equal(Put(none, 2, 1), Put(nil, 2, 1)) || !slices.Equal(Holes(none, 2), Holes(nil, 2)) || !slices.Equal(Pages(none, 2), Pages(nil, 2)) {
		t.Error("nil isn't like empty")
	}
}

func TestOneListAskedAtOneTime(t *testing.T) {
	l := row([3]int{1, 3, 5}, [3]int{5, 1, 9})
	var group sync.WaitGroup
	for range 8 {
		group.Go(func() {
			for i := range 8 {
				if !Right(Put(l, i, i+4)) || !Right(Cut(l, i)) || Len(l) != 4 || len(Pages(l, 8)) != 8 || len(Holes(l, 8)) != 3 {
					t.Error(i)
				}
			}
		})
	}
	group.Wait()
}
