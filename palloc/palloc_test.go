package palloc

import (
	"slices"
	"sync"
	"testing"
)

const (
	greatest = int(^uint(0) >> 1)
	most     = 1048576
)

// draw is a row of numbers that is the same each time.
func draw(seed uint64) func(below int) int {
	x := seed*2862933555777941757 + 88172645463325252
	return func(below int) int {
		x ^= x << 13
		x ^= x >> 7
		x ^= x << 17
		return int(x >> 20 % uint64(below))
	}
}

// plain is the pages by the chapter's words: one after the other, each used or not.
type plain struct {
	n    int
	used map[int]bool
}

func plainly(n int, used []int) *plain {
	p := &plain{n: min(max(n, 0), most), used: map[int]bool{}}
	for _, i := range used {
		if 1 <= i && i <= p.n {
			p.used[i] = true
		}
	}
	return p
}

func (p *plain) take() (int, bool) {
	for i := 1; i <= p.n; i++ {
		if !p.used[i] {
			p.used[i] = true
			return i, true
		}
	}
	return 0, false
}

func (p *plain) give(i int) bool {
	was := p.used[i]
	delete(p.used, i)
	return was
}

func (p *plain) list() []int {
	var l []int
	for i := 1; i <= p.n; i++ {
		if p.used[i] {
			l = append(l, i)
		}
	}
	return l
}

func (p *plain) runs() [][2]int {
	var l [][2]int
	for i := 1; i <= p.n; i++ {
		switch {
		case p.used[i] && !p.used[i-1]:
			l = append(l, [2]int{i, i})
		case p.used[i]:
			l[len(l)-1][1] = i
		}
	}
	return l
}

// alike holds all that pages tell against what they should tell.
func alike(t *testing.T, p *Pages, want *plain) {
	t.Helper()
	if p.Free() != want.n-len(want.used) {
		t.Fatal(want.n, "free", p.Free(), "of", len(want.used), "used")
	}
	if l := p.Used(); !slices.Equal(l, want.list()) {
		t.Fatal(want.n, "used", l, "not", want.list())
	}
	if l := p.Runs(); !slices.Equal(l, want.runs()) {
		t.Fatal(want.n, "runs", l, "not", want.runs())
	}
	for i := -2; i <= want.n+130; i++ {
		if p.Has(i) != want.used[i] {
			t.Fatal(want.n, "has", i, p.Has(i))
		}
	}
}

// sizes stand at the edges of words of 64 bits, and away from them.
var sizes = []int{0, 1, 2, 3, 31, 62, 63, 64, 65, 66, 127, 128, 129, 191, 192, 193, 300}

// P12.1: New.

func TestNewOfNone(t *testing.T) {
	for _, n := range append([]int{-1, -2, -64, -greatest - 1}, sizes...) {
		alike(t, New(n, nil), plainly(n, nil))
	}
}

func TestNewBetweenItsEnds(t *testing.T) {
	for _, c := range []struct{ n, free int }{
		{-greatest - 1, 0},
		{-1, 0},
		{0, 0},
		{1, 1},
		{most - 1, most - 1},
		{most, most},
		{most + 1, most},
		{greatest, most},
	} {
		p := New(c.n, []int{c.free + 1})
		if p.Free() != c.free || p.Has(c.free+1) {
			t.Error(c.n, "free", p.Free())
		}
		if c.free > 0 && (!New(c.n, []int{c.free}).Has(c.free) || New(c.n, []int{c.free}).Free() != c.free-1) {
			t.Error(c.n, "last")
		}
	}
}

func TestNewOfUsed(t *testing.T) {
	for _, c := range []struct {
		n    int
		used []int
		want []int
	}{
		{3, []int{2}, []int{2}},
		{3, []int{3, 1, 2}, []int{1, 2, 3}},
		{3, []int{2, 2, 2}, []int{2}},
		{3, []int{0, 4, -1, -64, 5, 64, 65, greatest, -greatest - 1}, nil},
		{3, []int{0, 1, 4, 3}, []int{1, 3}},
		{64, []int{65, 64, 0, 1}, []int{1, 64}},
		{65, []int{66, 65, 64, 128}, []int{64, 65}},
		{0, []int{0, 1}, nil},
		{-5, []int{-5, -1, 0, 1}, nil},
		{most, []int{most + 1, most, 1}, []int{1, most}},
		{greatest, []int{greatest, most + 1, most}, []int{most}},
	} {
		p := New(c.n, c.used)
		if l := p.Used(); !slices.Equal(l, c.want) || p.Free() != min(max(c.n, 0), most)-len(c.want) {
			t.Error(c.n, c.used, l, p.Free())
		}
	}
}

// P12.1: Take.

func TestTakeOfTheExample(t *testing.T) {
	p := New(3, []int{2})
	for _, want := range []int{1, 3} {
		if i, is := p.Take(); i != want || !is {
			t.Error(i, is, want)
		}
	}
	if i, is := p.Take(); i != 0 || is {
		t.Error(i, is)
	}
}

func TestTakeTillThereIsNone(t *testing.T) {
	for _, n := range sizes {
		p := New(n, nil)
		for want := 1; want <= n; want++ {
			if i, is := p.Take(); i != want || !is || !p.Has(i) || p.Free() != n-want {
				t.Fatal(n, i, is, want, p.Free())
			}
		}
		for range 3 {
			if i, is := p.Take(); i != 0 || is || p.Free() != 0 {
				t.Fatal(n, i, is)
			}
		}
	}
}

func TestTakeTheLastOfAll(t *testing.T) {
	l := make([]int, most-1)
	for i := range l {
		l[i] = i + 1
	}
	p := New(most, l)
	if i, is := p.Take(); i != most || !is {
		t.Error(i, is)
	}
	if i, is := p.Take(); i != 0 || is {
		t.Error(i, is)
	}
	if l := p.Runs(); !slices.Equal(l, [][2]int{{1, most}}) {
		t.Error(l)
	}
}

func TestTakeTheLeastFreeOne(t *testing.T) {
	for _, n := range sizes {
		p := New(n, nil)
		for range n {
			p.Take()
		}
		for i := n; i >= 1; i-- {
			if !p.Give(i) {
				t.Fatal(n, i)
			}
			if j, is := p.Take(); j != i || !is {
				t.Fatal(n, i, j, is)
			}
			p.Give(i)
		}
	}
}

// P12.1: Give and Has.

func TestGive(t *testing.T) {
	p := New(70, []int{1, 63, 64, 65, 70})
	for _, c := range []struct {
		i    int
		want bool
	}{
		{64, true}, {64, false}, {2, false}, {70, true}, {70, false}, {71, false}, {0, false}, {-1, false},
		{-63, false}, {-64, false}, {128, false}, {129, false}, {greatest, false}, {-greatest - 1, false}, {1, true}, {1, false},
	} {
		if p.Give(c.i) != c.want || p.Has(c.i) {
			t.Error(c.i)
		}
	}
	if l := p.Used(); !slices.Equal(l, []int{63, 65}) || p.Free() != 68 {
		t.Error(l, p.Free())
	}
}

func TestGiveNothingThatIsFree(t *testing.T) {
	p := New(65, nil)
	for i := -3; i <= 200; i++ {
		if p.Give(i) || p.Has(i) || p.Free() != 65 {
			t.Fatal(i)
		}
	}
}

func TestHasOfNoPage(t *testing.T) {
	p := New(3, []int{1, 2, 3})
	for _, i := range []int{0, -1, 4, 64, 65, 66, -62, -63, -64, greatest, -greatest - 1} {
		if p.Has(i) {
			t.Error(i)
		}
	}
	for i := 1; i <= 3; i++ {
		if !p.Has(i) {
			t.Error(i)
		}
	}
}

// P12.1: Used and Runs.

func TestRuns(t *testing.T) {
	for _, c := range []struct {
		n    int
		used []int
		want [][2]int
	}{
		{0, nil, nil},
		{5, nil, nil},
		{5, []int{1}, [][2]int{{1, 1}}},
		{5, []int{5}, [][2]int{{5, 5}}},
		{5, []int{5, 4, 3, 2, 1}, [][2]int{{1, 5}}},
		{5, []int{1, 3, 5}, [][2]int{{1, 1}, {3, 3}, {5, 5}}},
		{5, []int{2, 1, 4, 5}, [][2]int{{1, 2}, {4, 5}}},
		{64, []int{64, 63}, [][2]int{{63, 64}}},
		{65, []int{65, 64}, [][2]int{{64, 65}}},
		{200, []int{64, 66, 128, 129, 200}, [][2]int{{64, 64}, {66, 66}, {128, 129}, {200, 200}}},
		{most, []int{most, 1}, [][2]int{{1, 1}, {most, most}}},
	} {
		if l := New(c.n, c.used).Runs(); !slices.Equal(l, c.want) {
			t.Error(c.n, c.used, l)
		}
	}
}

func TestRunsAcrossWords(t *testing.T) {
	for from := 1; from <= 200; from += 3 {
		for to := from; to <= 200; to++ {
			var l []int
			for i := from; i <= to; i++ {
				l = append(l, i)
			}
			p := New(200, l)
			if runs := p.Runs(); len(runs) != 1 || runs[0] != [2]int{from, to} {
				t.Fatal(from, to, runs)
			}
			if used := p.Used(); !slices.Equal(used, l) || p.Free() != 200-len(l) {
				t.Fatal(from, to, used)
			}
		}
	}
}

func TestEverySmallOne(t *testing.T) {
	for n := range 9 {
		for which := range 1 << n {
			var l []int
			for i := range n {
				if which>>i&1 != 0 {
					l = append(l, i+1)
				}
			}
			p, want := New(n, l), plainly(n, l)
			alike(t, p, want)
			i, is := p.Take()
			j, was := want.take()
			if i != j || is != was {
				t.Fatal(n, l, i, is)
			}
			alike(t, p, want)
		}
	}
}

func TestAnyCalls(t *testing.T) {
	for seed := range uint64(300) {
		next := draw(seed)
		n := sizes[next(len(sizes))]
		var l []int
		for range next(2*n + 2) {
			l = append(l, next(n+5)-2)
		}
		p, want := New(n, l), plainly(n, l)
		alike(t, p, want)
		for range 60 {
			if next(3) > 0 {
				i := next(n+5) - 2
				if p.Give(i) != want.give(i) {
					t.Fatal(seed, "give", i)
				}
				continue
			}
			i, is := p.Take()
			j, was := want.take()
			if i != j || is != was {
				t.Fatal(seed, "take", i, is, j, was)
			}
		}
		alike(t, p, want)
	}
}

// P12.2: once.

func TestOnceAheadOfItsGive(t *testing.T) {
	for seed := range uint64(50) {
		next := draw(seed)
		n := 1 + next(200)
		p, taken := New(n, []int{1 + next(n)}), map[int]bool{}
		for range 4 * n {
			if i := 1 + next(n); next(3) == 0 && taken[i] {
				p.Give(i)
				delete(taken, i)
			}
			i, is := p.Take()
			if is && (taken[i] || i < 1 || i > n) {
				t.Fatal(seed, i)
			}
			if is {
				taken[i] = true
			}
		}
	}
}

// P12.2: Copy.

func TestCopyGoesItsOwnWay(t *testing.T) {
	for _, n := range sizes {
		p := New(n, []int{2, 64})
		q, ahead := p.Copy(), plainly(n, []int{2, 64})
		alike(t, q, ahead)
		for range n {
			p.Take()
		}
		p.Give(2)
		alike(t, q, ahead)
		behind := p.Used()
		for q.Free() > 0 {
			q.Take()
		}
		q.Give(1)
		q.Give(n)
		if l := p.Used(); !slices.Equal(l, behind) {
			t.Error(n, l, behind)
		}
	}
}

func TestCopyOfNoPagesIsThere(t *testing.T) {
	for _, n := range []int{-1, 0} {
		if New(n, nil) == nil || New(n, nil).Copy() == nil {
			t.Error(n)
		}
	}
}

// P12.2 and P1: what nobody made.

func TestNobodyMade(t *testing.T) {
	for _, p := range []*Pages{nil, {}} {
		for _, i := range []int{0, 1, -1, 64, greatest, -greatest - 1} {
			if p.Give(i) || p.Has(i) {
				t.Error(p, i)
			}
		}
		if i, is := p.Take(); i != 0 || is {
			t.Error(p, i, is)
		}
		if p.Free() != 0 || len(p.Used()) != 0 || len(p.Runs()) != 0 || p.Copy() != nil {
			t.Error(p)
		}
	}
}

// Rules that hold everywhere: P2 and P3.

func TestArgumentsStayAsTheyAre(t *testing.T) {
	whole := []int{3, 1, 9, 2, 7, 7}
	used := whole[:3]
	p := New(5, used)
	used[0] = 4
	if l := p.Used(); !slices.Equal(l, []int{1, 3}) {
		t.Error(l)
	}
	p.Take()
	p.Give(3)
	if !slices.Equal(whole, []int{4, 1, 9, 2, 7, 7}) {
		t.Error(whole)
	}
}

func TestAnswersAreTheirOwn(t *testing.T) {
	p := New(70, []int{1, 2, 65})
	used, runs := p.Used(), p.Runs()
	clear(used[:cap(used)])
	clear(runs[:cap(runs)])
	if l := p.Used(); !slices.Equal(l, []int{1, 2, 65}) {
		t.Error(l)
	}
	if l := p.Runs(); !slices.Equal(l, [][2]int{{1, 2}, {65, 65}}) {
		t.Error(l)
	}
}

func TestNilIsLikeEmpty(t *testing.T) {
	p, q := New(3, nil), New(3, []int{})
	if p.Free() != q.Free() || len(p.Used()) != 0 || len(q.Used()) != 0 {
		t.Error(p, q)
	}
}

func TestOthersPagesAtOneTime(t *testing.T) {
	p := New(300, []int{5, 70})
	var group sync.WaitGroup
	for range 8 {
		group.Go(func() {
			q := p.Copy()
			for q.Free() > 0 {
				q.Take()
			}
			if !slices.Equal(p.Used(), []int{5, 70}) || !slices.Equal(q.Runs(), [][2]int{{1, 300}}) {
				t.Error(p.Used(), q.Runs())
			}
		})
	}
	group.Wait()
}
