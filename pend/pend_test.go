package pend

import (
	"slices"
	"sync"
	"testing"

	"sump/api"
)

const (
	greatest = int(^uint(0) >> 1)
	least    = -greatest - 1
)

// draw is a row of numbers that is the same each time.
func draw(seed uint64) func(below int) int {
	x := seed*2862933555777941757 + 88172645463325252
	return func(below int) int {
		x ^= x << 13
		x ^= x >> 7
		x ^= x << 17
		return int(x >> 20 % uint64(below))
	}
}

// kinds has one effect of each kind, whole, with another node each.
func kinds() []api.Effect {
	return []api.Effect{
		{Kind: api.EfMake, Ino: 2, Dir: 1, Name: "a", Page: api.File},
		{Kind: api.EfLink, Ino: 3, Dir: 1, Name: "b"},
		{Kind: api.EfUnlink, Ino: 4, Dir: 9, Name: "c"},
		{Kind: api.EfRmdir, Ino: 5, Dir: 1, Name: "d"},
		{Kind: api.EfRename, Ino: 6, Dir: 1, Name: "e", To: 7, Other: "f"},
		{Kind: api.EfTrunc, Ino: 8, Size: 16384},
		{Kind: api.EfWrite, Ino: 9, Page: 1, Size: 300, Data: slices.Repeat([]byte{7}, 256)},
		{Kind: api.EfDrop, Ino: 10},
	}
}

// odd are effects that may not be, of which a List asks nothing.
func odd() []api.Effect {
	return []api.Effect{
		{},
		{Kind: -1, Ino: -1, Dir: -1, To: -1, Page: -1, Size: -1, Name: "..", Other: "/"},
		{Kind: greatest, Ino: greatest, Dir: least, To: greatest, Page: least, Size: greatest},
		{Ino: least, Data: []byte{1}},
		{Kind: api.EfMake, Ino: 2, Name: "\x00\xff", Data: make([]byte, 256)},
		{Kind: api.EfDrop, Ino: 0, Data: make([]byte, 1000)},
	}
}

// same holds each field against the other's.
func same(a, b api.Effect) bool {
	return a.Kind == b.Kind && a.Ino == b.Ino && a.Dir == b.Dir && a.To == b.To && a.Page == b.Page && a.Size == b.Size &&
		a.Name == b.Name && a.Other == b.Other && slices.Equal(a.Data, b.Data)
}

// kept is an effect by the chapter's words: its number, its page's number, and itself, without Data.
type kept struct {
	number, id int
	e          api.Effect
}

// plain is a list by the chapter's words: all that was ever added, and how many of them went.
type plain struct {
	ever []kept
	gone int
}

func (p *plain) add(e api.Effect, id int) int {
	e.Data = nil
	p.ever = append(p.ever, kept{len(p.ever) + 1, id, e})
	return len(p.ever)
}

func (p *plain) pop() bool {
	if p.gone == len(p.ever) {
		return false
	}
	p.gone++
	return true
}

func (p *plain) here() []kept { return p.ever[p.gone:] }

func (p *plain) last(ino int) int {
	number := p.gone
	for _, k := range p.here() {
		if k.e.Ino == ino {
			number = k.number
		}
	}
	return number
}

// alike holds all that a list tells against what it should tell.
func alike(t *testing.T, l *List, want *plain) {
	t.Helper()
	here := want.here()
	if l.Len() != len(here) || l.Gone() != want.gone || l.Next() != len(want.ever)+1 || l.Next() != l.Gone()+l.Len()+1 {
		t.Fatal("len", l.Len(), "not", len(here), "gone", l.Gone(), "not", want.gone, "next", l.Next(), "not", len(want.ever)+1)
	}
	e, id, is := l.Head()
	first := kept{}
	if len(here) > 0 {
		first = here[0]
	}
	if is != (len(here) > 0) || id != first.id || !same(e, first.e) {
		t.Fatal("head", e, id, is, "not", first)
	}
	if !slices.EqualFunc(l.All(), here, func(e api.Effect, k kept) bool { return same(e, k.e) }) {
		t.Fatal("all", l.All(), "not", here)
	}
	for _, ino := range []int{least, -1, 0, 1, 2, 3, 4, 5, 6, 7, 8, 9, 10, 11, api.MaxIno, greatest} {
		if n := l.Last(ino); n != want.last(ino) {
			t.Fatal("last", ino, n, "not", want.last(ino))
		}
	}
}

// both does the same with a list and a plain one, and holds them against each other.
type both struct {
	t    *testing.T
	list List
	want plain
}

func (b *both) add(e api.Effect, id int) {
	b.t.Helper()
	want := b.want.add(e, id)
	if n := b.list.Add(e, id); n != want {
		b.t.Fatal("add", e, id, n, "not", want)
	}
	alike(b.t, &b.list, &b.want)
}

func (b *both) pop() {
	b.t.Helper()
	want := b.want.pop()
	if is := b.list.Pop(); is != want {
		b.t.Fatal("pop", is, "not", want)
	}
	alike(b.t, &b.list, &b.want)
}

// P21.1: Add.

func TestAddOfAnEmptyList(t *testing.T) {
	var l List
	for want := 1; want <= 1000; want++ {
		if l.Next() != want {
			t.Fatal("next", l.Next(), "not", want)
		}
		if n := l.Add(kinds()[0], want); n != want {
			t.Fatal(n, "not", want)
		}
	}
}

func TestAddOfEachKind(t *testing.T) {
	b := both{t: t}
	for i, e := range append(kinds(), odd()...) {
		b.add(e, i)
	}
}

func TestAddOfAnyPage(t *testing.T) {
	b := both{t: t}
	for _, id := range []int{0, 1, 2, 2, -1, 256, 1<<32 + 1, greatest, least} {
		b.add(kinds()[6], id)
	}
	for b.list.Len() > 0 {
		b.pop()
	}
}

// What was added is told without Data, but whole in all else.
func TestAddWithoutData(t *testing.T) {
	for i, e := range append(kinds(), odd()...) {
		var l List
		l.Add(e, 5)
		if l.rows[0].effect.Data != nil {
			t.Error(i, "keeps bytes")
		}
		bare := e
		bare.Data = nil
		if got, id, is := l.Head(); !same(got, bare) || got.Data != nil || id != 5 || !is {
			t.Error(i, got, id, is)
		}
		if all := l.All(); len(all) != 1 || !same(all[0], bare) || all[0].Data != nil {
			t.Error(i, all)
		}
	}
}

// No number is told twice, though all that had one went.
func TestNumbersOnlyRise(t *testing.T) {
	var l List
	for want := 1; want <= 1000; want++ {
		if n := l.Add(kinds()[1], 0); n != want || !l.Pop() || l.Pop() || l.Len() != 0 || l.Gone() != want {
			t.Fatal(n, "not", want)
		}
	}
}

// P21.1: Head and Pop.

func TestHeadAndPopOfNone(t *testing.T) {
	b := both{t: t}
	alike(t, &b.list, &b.want)
	for range 3 {
		b.pop()
	}
	b.add(kinds()[2], 7)
	b.pop()
	for range 3 {
		b.pop()
	}
	if b.list.Gone() != 1 || b.list.Next() != 2 {
		t.Error(b.list.Gone(), b.list.Next())
	}
}

func TestHeadStaysTillItGoes(t *testing.T) {
	var l List
	for i, e := range kinds() {
		l.Add(e, 100+i)
		if got, id, is := l.Head(); got.Ino != 2 || id != 100 || !is {
			t.Fatal(i, got, id, is)
		}
	}
	for i, e := range kinds() {
		got, id, is := l.Head()
		if got.Ino != e.Ino || id != 100+i || !is || l.Gone() != i || !l.Pop() || l.Gone() != i+1 {
			t.Fatal(i, got, id, is, l.Gone())
		}
	}
	if l.Pop() || l.Len() != 0 || l.Gone() != 8 || l.Next() != 9 {
		t.Error(l.Len(), l.Gone(), l.Next())
	}
}

// What went keeps no names behind what is cut off.
func TestPopLeavesNothing(t *testing.T) {
	var l List
	for i, e := range kinds() {
		l.Add(e, i)
	}
	rows := l.rows
	for i := range rows {
		if l.Pop(); !same(rows[i].effect, api.Effect{}) || rows[i].page != 0 {
			t.Error(i, rows[i])
		}
	}
}

// P21.1: Last.

func TestLast(t *testing.T) {
	var l List
	for _, ino := range []int{2, 3, 2, 4} {
		l.Add(api.Effect{Kind: api.EfDrop, Ino: ino}, 0)
	}
	for _, c := range []struct{ popped, two, three, four, five int }{
		{0, 3, 2, 4, 0},
		{1, 3, 2, 4, 1},
		{2, 3, 2, 4, 2},
		{3, 3, 3, 4, 3},
		{4, 4, 4, 4, 4},
	} {
		if l.Gone() != c.popped || l.Last(2) != c.two || l.Last(3) != c.three || l.Last(4) != c.four || l.Last(5) != c.five {
			t.Error(c, l.Last(2), l.Last(3), l.Last(4), l.Last(5))
		}
		l.Pop()
	}
}

// Only its own number makes an effect touch a node: none of the directories that it has.
func TestLastGoesByTheNode(t *testing.T) {
	for i, e := range kinds() {
		var l List
		for range 3 {
			l.Add(api.Effect{Kind: api.EfDrop, Ino: 100}, 0)
			l.Pop()
		}
		l.Add(e, 0)
		l.Add(api.Effect{Kind: api.EfDrop, Ino: 101}, 0)
		for ino := -1; ino <= 12; ino++ {
			want := 3
			if ino == e.Ino {
				want = 4
			}
			if n := l.Last(ino); n != want {
				t.Error(i, ino, n, "not", want)
			}
		}
		if l.Last(100) != 3 || l.Last(101) != 5 {
			t.Error(i, l.Last(100), l.Last(101))
		}
	}
}

func TestLastOfManyThatTouchIt(t *testing.T) {
	var l List
	for i := 1; i <= 500; i++ {
		l.Add(api.Effect{Kind: api.EfTrunc, Ino: 2 + i%3}, 0)
		if l.Last(2+i%3) != i || i > 2 && (l.Last(2+(i+2)%3) != i-1 || l.Last(2+(i+1)%3) != i-2) {
			t.Fatal(i, l.Last(2), l.Last(3), l.Last(4))
		}
	}
}

// P21.2, and all of P21.1 held against a plain list.

func TestEachShortRow(t *testing.T) {
	for row := range 1 << 12 {
		b := both{t: t}
		for i := range 12 {
			if row>>i&1 == 1 {
				b.pop()
				continue
			}
			b.add(api.Effect{Kind: api.EfLink, Ino: 1 + i%4, Dir: 2, Name: string(rune('a' + i))}, i)
		}
	}
}

func TestDrawnRows(t *testing.T) {
	for seed := range uint64(60) {
		next := draw(seed + 1)
		b := both{t: t}
		all := append(kinds(), odd()...)
		for range 300 {
			if next(100) < 30+int(seed) {
				b.pop()
				continue
			}
			e := all[next(len(all))]
			e.Ino, e.Size = next(12), next(1000)
			b.add(e, next(300))
		}
	}
}

// Many wait at once, go, and others come: the numbers go on.
func TestManyAndAgain(t *testing.T) {
	var l List
	number, gone := 0, 0
	for round := range 20 {
		for range 1000 {
			number++
			if n := l.Add(api.Effect{Kind: api.EfWrite, Ino: number, Size: round}, number); n != number {
				t.Fatal(n, "not", number)
			}
		}
		for range 900 {
			gone++
			if e, id, is := l.Head(); e.Ino != gone || id != gone || !is || !l.Pop() {
				t.Fatal(e, id, is, "not", gone)
			}
		}
		if l.Gone() != gone || l.Len() != number-gone || l.Next() != number+1 || l.Last(number) != number || l.Last(gone) != gone {
			t.Fatal(l.Gone(), l.Len(), l.Next(), "not", gone, number)
		}
	}
}

// P21.2: nil.

func TestNil(t *testing.T) {
	var l *List
	for _, e := range append(kinds(), odd()...) {
		if n := l.Add(e, 3); n != 0 {
			t.Error("add", n)
		}
	}
	if e, id, is := l.Head(); !same(e, api.Effect{}) || id != 0 || is || l.Pop() {
		t.Error("head", e, id, is)
	}
	if l.Len() != 0 || l.Gone() != 0 || l.Next() != 0 || len(l.All()) != 0 {
		t.Error(l.Len(), l.Gone(), l.Next(), l.All())
	}
	for _, ino := range []int{least, -1, 0, 1, 2, greatest} {
		if n := l.Last(ino); n != 0 {
			t.Error("last", ino, n)
		}
	}
}

// Rules that hold everywhere: P2 and P3.

func TestArgumentsAreNotShared(t *testing.T) {
	whole := slices.Repeat([]byte{7}, 300)
	e := kinds()[6]
	e.Data = whole[:256]
	var l List
	l.Add(e, 1)
	if e.Data == nil || !same(e, kinds()[6]) || !slices.Equal(whole, slices.Repeat([]byte{7}, 300)) {
		t.Error("changed by Add")
	}
	e.Ino = 5
	if got, _, _ := l.Head(); got.Ino != 9 {
		t.Error(got)
	}
}

func TestAnswersAreTheirOwn(t *testing.T) {
	b := both{t: t}
	for i, e := range kinds() {
		b.add(e, i)
	}
	one, two := b.list.All(), b.list.All()
	clear(one[:cap(one)])
	alike(t, &b.list, &b.want)
	_ = append(two[:1], api.Effect{Ino: 77}, api.Effect{Ino: 78})
	alike(t, &b.list, &b.want)
	e, _, _ := b.list.Head()
	e.Ino, e.Data = 99, []byte{1}
	alike(t, &b.list, &b.want)
}

// What All and Head told stays when effects go, and when others come.
func TestAnswersStay(t *testing.T) {
	var l List
	for i, e := range kinds() {
		l.Add(e, i)
	}
	all := l.All()
	head, _, _ := l.Head()
	for l.Pop() {
	}
	for range 20 {
		l.Add(api.Effect{Kind: api.EfDrop, Ino: 50}, 9)
	}
	for i, e := range kinds() {
		e.Data = nil
		if !same(all[i], e) || i == 0 && !same(head, e) {
			t.Error(i, all[i], head)
		}
	}
}

// Each list has numbers and effects of its own, at one time, too.
func TestOthers(t *testing.T) {
	var lists [8]List
	var group sync.WaitGroup
	for k := range lists {
		group.Go(func() {
			for i := range 300 {
				lists[k].Add(api.Effect{Kind: api.EfDrop, Ino: i * (k + 1)}, i)
				if i%(k+2) == 0 {
					lists[k].Pop()
				}
			}
		})
	}
	group.Wait()
	for k := range lists {
		var want plain
		for i := range 300 {
			want.add(api.Effect{Kind: api.EfDrop, Ino: i * (k + 1)}, i)
			if i%(k+2) == 0 {
				want.pop()
			}
		}
		alike(t, &lists[k], &want)
	}
}
