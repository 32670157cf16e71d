package cache

import (
	"slices"
	"sync"
	"testing"

	"sump/api"
)

const (
	greatest = int(^uint(0) >> 1)
	least    = -greatest - 1
)

// draw is a row of numbers that is the same each time.
func draw(seed uint64) func(below int) int {
	x := seed*2862933555777941757 + 88172645463325252
	return func(below int) int {
		x ^= x << 13
		x ^= x >> 7
		x ^= x << 17
		return int(x >> 20 % uint64(below))
	}
}

// page is 256 bytes that no other seed has (below 2^16), and that differ from each other.
func page(seed int) []byte {
	b := make([]byte, 256)
	for i := range b {
		b[i] = byte(i + seed)
	}
	b[100], b[255] = byte(seed>>8), byte(seed)
	return b
}

// kept is a page by the chapter's words: a number, and what was Put.
type kept struct {
	id int
	b  []byte
}

// plain is a cache by the chapter's words: its pages one behind the other, as they were Put.
type plain struct {
	most, last int
	pages      []kept
}

func plainly(n int) *plain {
	switch {
	case n < 8:
		return &plain{most: 8}
	case n > 256:
		return &plain{most: 256}
	}
	return &plain{most: n}
}

func (p *plain) put(b []byte) (int, bool) {
	if len(p.pages) == p.most || len(b) != 256 {
		return 0, false
	}
	p.last++
	p.pages = append(p.pages, kept{p.last, slices.Clone(b)})
	return p.last, true
}

func (p *plain) drop(id int) bool {
	for i, k := range p.pages {
		if k.id == id {
			p.pages = slices.Delete(p.pages, i, i+1)
			return true
		}
	}
	return false
}

func (p *plain) get(id int) ([]byte, bool) {
	for _, k := range p.pages {
		if k.id == id {
			return k.b, true
		}
	}
	return nil, false
}

// full is a cache of as many pages as may be: number i has page(i).
func full(t *testing.T, n int) *Cache {
	t.Helper()
	c := New(n)
	for i := 1; i <= plainly(n).most; i++ {
		if id, is := c.Put(page(i)); id != i || !is {
			t.Fatal(n, i, id, is)
		}
	}
	return c
}

// alike holds all that a cache tells against what it should tell.
func alike(t *testing.T, c *Cache, want *plain) {
	t.Helper()
	if c.Len() != len(want.pages) || c.Most() != want.most || c.Len() > c.Most() {
		t.Fatal("len", c.Len(), "not", len(want.pages), "most", c.Most(), "not", want.most)
	}
	var ids []int
	for _, k := range want.pages {
		ids = append(ids, k.id)
	}
	if l := c.Ids(); !slices.Equal(l, ids) {
		t.Fatal("ids", l, "not", ids)
	}
	eldest, there := 0, len(ids) > 0
	if there {
		eldest = ids[0]
	}
	if id, is := c.Eldest(); id != eldest || is != there {
		t.Fatal("eldest", id, is, "not", eldest, there)
	}
	for id := -2; id <= want.last+3; id++ {
		b, is := c.Get(id)
		if w, was := want.get(id); is != was || !slices.Equal(b, w) {
			t.Fatal("get", id, is, "not", was)
		}
	}
	for _, n := range []int{least, -1, 0, 1, 2, want.most - len(ids) - 1, want.most - len(ids), want.most - len(ids) + 1, want.most, greatest} {
		if c.Room(n) != (n >= 0 && n <= want.most-len(ids)) {
			t.Fatal("room", n, c.Room(n), "beside", len(ids), "of", want.most)
		}
	}
}

// sizes are what caches are asked for, at the edges and away from them.
var sizes = []int{least, -256, -8, -1, 0, 1, 7, 8, 9, 64, 255, 256, 257, 300, greatest}

// P20.1: New and Most.

func TestNewBetweenItsEnds(t *testing.T) {
	for _, c := range []struct{ n, most int }{
		{least, 8}, {-256, 8}, {-8, 8}, {-1, 8}, {0, 8}, {1, 8}, {7, 8}, {8, 8}, {9, 9}, {10, 10}, {100, 100},
		{254, 254}, {255, 255}, {256, 256}, {257, 256}, {1 << 20, 256}, {1<<32 + 9, 256}, {greatest, 256},
	} {
		if m := New(c.n).Most(); m != c.most {
			t.Error(c.n, m, "not", c.most)
		}
	}
}

func TestNewHasNoPages(t *testing.T) {
	for _, n := range sizes {
		alike(t, New(n), plainly(n))
	}
}

// P20.1: Put.

func TestPutTillThereAreAsManyAsMayBe(t *testing.T) {
	for _, n := range sizes {
		c, most := full(t, n), plainly(n).most
		for range 3 {
			if id, is := c.Put(page(0)); id != 0 || is || c.Len() != most {
				t.Fatal(n, id, is, c.Len())
			}
		}
		for i := 1; i <= most; i++ {
			if b, is := c.Get(i); !is || !slices.Equal(b, page(i)) {
				t.Fatal(n, i, is)
			}
		}
	}
}

func TestPutOfNoPage(t *testing.T) {
	c, want := New(8), plainly(8)
	for i, b := range [][]byte{nil, {}, {1}, make([]byte, 8), make([]byte, 32), make([]byte, 128), make([]byte, 255), make([]byte, 257), make([]byte, 512), make([]byte, 1024), page(1)[:255], page(1)[1:]} {
		if id, is := c.Put(b); id != 0 || is {
			t.Error(i, id, is)
		}
		alike(t, c, want)
	}
	if id, is := c.Put(page(1)); id != 1 || !is {
		t.Error(id, is)
	}
}

func TestPutOfAnyBytes(t *testing.T) {
	c := New(256)
	for i := range 256 {
		b := make([]byte, 256)
		b[i] = byte(255 - i)
		id, _ := c.Put(b)
		if got, is := c.Get(id); !is || !slices.Equal(got, b) {
			t.Fatal(i, id, is)
		}
	}
}

func TestPutOfTheSameTwice(t *testing.T) {
	c := New(8)
	a, _ := c.Put(page(3))
	b, _ := c.Put(page(3))
	if a != 1 || b != 2 || c.Len() != 2 || !c.Drop(a) {
		t.Error(a, b, c.Len())
	}
	if got, is := c.Get(b); !is || !slices.Equal(got, page(3)) {
		t.Error(got, is)
	}
}

// A number that was told once isn't told again: neither when its page goes, nor when all go.
func TestNumbersThatNoneHad(t *testing.T) {
	c := New(8)
	c.Put(page(1))
	c.Put(page(2))
	c.Drop(2)
	if id, is := c.Put(page(3)); id != 3 || !is {
		t.Error(id, is)
	}
	for _, id := range c.Ids() {
		c.Drop(id)
	}
	if id, is := c.Put(page(4)); id != 4 || !is {
		t.Error(id, is)
	}
	for want := 5; want <= 1000; want++ {
		c.Drop(want - 1)
		if id, is := c.Put(page(want)); id != want || !is || c.Len() != 1 {
			t.Fatal(want, id, is)
		}
	}
}

// What isn't kept has no number: the next page that is kept has the one behind the last.
func TestNumbersBehindWhatIsNotKept(t *testing.T) {
	c := full(t, 8)
	for range 5 {
		c.Put(page(0))
	}
	c.Drop(5)
	for range 5 {
		c.Put(nil)
	}
	if id, is := c.Put(page(9)); id != 9 || !is {
		t.Error(id, is)
	}
	if l := c.Ids(); !slices.Equal(l, []int{1, 2, 3, 4, 6, 7, 8, 9}) {
		t.Error(l)
	}
}

// P20.1: Get and Drop.

func TestOfNoNumber(t *testing.T) {
	c := full(t, 8)
	c.Drop(3)
	for _, id := range []int{0, -1, -8, 3, 9, 10, 256, 257, 1<<32 + 1, least, greatest} {
		if b, is := c.Get(id); len(b) != 0 || is {
			t.Error("get", id, is)
		}
		if c.Drop(id) || c.Len() != 7 {
			t.Error("drop", id, c.Len())
		}
	}
}

func TestDrop(t *testing.T) {
	for _, n := range []int{8, 9, 256} {
		c, want := full(t, n), plainly(n)
		for i := 1; i <= n; i++ {
			want.put(page(i))
		}
		for _, id := range []int{1, n, 4, 4, n - 1, 2, 1, n} {
			there := want.drop(id)
			if c.Drop(id) != there {
				t.Fatal(n, id, there)
			}
			alike(t, c, want)
		}
	}
}

// P20.1: Len, Room, Eldest and Ids.

func TestRoomTillThereIsNone(t *testing.T) {
	for _, n := range sizes {
		c, most := New(n), plainly(n).most
		for has := range most + 1 {
			for m := -2; m <= most+2; m++ {
				if c.Room(m) != (m >= 0 && m <= most-has) {
					t.Fatal(n, has, m, c.Room(m))
				}
			}
			for _, m := range []int{least, least + 1, least + has, -256, -8, greatest, greatest - 1, greatest - has, 1 << 32, 1<<32 + 1} {
				if c.Room(m) {
					t.Fatal(n, has, m)
				}
			}
			if c.Len() != has {
				t.Fatal(n, has, c.Len())
			}
			c.Put(page(has))
		}
	}
}

func TestEldest(t *testing.T) {
	c := full(t, 8)
	for _, s := range []struct{ drop, want int }{{8, 1}, {2, 1}, {1, 3}, {4, 3}, {3, 5}, {5, 6}, {6, 7}} {
		c.Drop(s.drop)
		if id, is := c.Eldest(); id != s.want || !is {
			t.Error(s, id, is)
		}
	}
	c.Put(page(9))
	if id, is := c.Eldest(); id != 7 || !is {
		t.Error(id, is)
	}
	c.Drop(7)
	if id, is := c.Eldest(); id != 9 || !is {
		t.Error(id, is)
	}
	c.Drop(9)
	if id, is := c.Eldest(); id != 0 || is {
		t.Error(id, is)
	}
}

// The eldest one goes, a new one is Put: numbers of one digit, of two, and of more rise as numbers do.
func TestIdsRise(t *testing.T) {
	c := full(t, 100)
	for i := 1; i <= 2000; i++ {
		if id, is := c.Eldest(); id != i || !is || !c.Drop(id) {
			t.Fatal(i, id, is)
		}
		c.Put(page(i + 100))
		l := c.Ids()
		if len(l) != 100 || l[0] != i+1 || l[99] != i+100 || !slices.IsSorted(l) {
			t.Fatal(i, l)
		}
	}
}

// P20.1 and P20.2: any calls.

func TestAnyCalls(t *testing.T) {
	for seed := range uint64(200) {
		next := draw(seed)
		n := sizes[next(len(sizes))]
		c, want := New(n), plainly(n)
		for range 400 {
			if next(5) < 2 {
				id := next(want.last+4) - 2
				if c.Drop(id) != want.drop(id) {
					t.Fatal(seed, "drop", id)
				}
				continue
			}
			b := page(next(1 << 16))[:256-max(next(40)-37, 0)]
			id, is := c.Put(b)
			if w, was := want.put(b); id != w || is != was {
				t.Fatal(seed, "put", id, is, "not", w, was)
			}
			if c.Len() > c.Most() || c.Len() != len(want.pages) {
				t.Fatal(seed, c.Len(), c.Most())
			}
		}
		alike(t, c, want)
	}
}

// Each short row of calls on a cache that is all but full, and on one that is empty.
func TestEveryShortRow(t *testing.T) {
	for _, begin := range []int{0, 7} {
		for row := range 5 * 5 * 5 * 5 * 5 {
			c, want := New(8), plainly(8)
			for i := range begin {
				c.Put(page(i))
				want.put(page(i))
			}
			for ; row > 0; row /= 5 {
				id := row%5 + begin - 2
				switch row % 5 {
				case 0, 1:
					c.Put(page(row))
					want.put(page(row))
				default:
					if c.Drop(id) != want.drop(id) {
						t.Fatal(begin, row, id)
					}
				}
			}
			alike(t, c, want)
		}
	}
}

// P20.2 and P1: what nobody made.

func TestNobodyMade(t *testing.T) {
	for _, c := range []*Cache{nil, {}} {
		for _, b := range [][]byte{nil, {1}, page(1)} {
			if id, is := c.Put(b); id != 0 || is {
				t.Error(c, len(b), id, is)
			}
		}
		for _, n := range []int{least, -1, 0, 1, 8, 256, greatest} {
			if b, is := c.Get(n); len(b) != 0 || is {
				t.Error(c, "get", n, is)
			}
			if c.Drop(n) || c.Room(n) {
				t.Error(c, n)
			}
		}
		if id, is := c.Eldest(); id != 0 || is || c.Len() != 0 || c.Most() != 0 || len(c.Ids()) != 0 {
			t.Error(c, id, is)
		}
	}
}

// Rules that hold everywhere: P2 and P3.

func TestArgumentsAreNotShared(t *testing.T) {
	whole := append(page(1), page(2)...)
	b := whole[:256]
	c := New(8)
	c.Put(b)
	if !slices.Equal(whole, append(page(1), page(2)...)) {
		t.Error("changed by Put")
	}
	clear(b)
	if got, _ := c.Get(1); !slices.Equal(got, page(1)) {
		t.Error(got)
	}
	got, _ := c.Get(1)
	clear(got)
	if !slices.Equal(whole, append(make([]byte, 256), page(2)...)) {
		t.Error("changed by Get")
	}
}

func TestAnswersAreTheirOwn(t *testing.T) {
	c := full(t, 8)
	a, _ := c.Get(2)
	b, _ := c.Get(2)
	ids := c.Ids()
	clear(a[:cap(a)])
	clear(ids[:cap(ids)])
	if !slices.Equal(b, page(2)) {
		t.Error(b)
	}
	for i := 1; i <= 8; i++ {
		if got, is := c.Get(i); !is || !slices.Equal(got, page(i)) {
			t.Error(i, got)
		}
	}
	if l := c.Ids(); !slices.Equal(l, []int{1, 2, 3, 4, 5, 6, 7, 8}) {
		t.Error(l)
	}
}

// What a page was told as stays when it goes, and when others come.
func TestAnswersStay(t *testing.T) {
	c := full(t, 8)
	got, _ := c.Get(3)
	ids := c.Ids()
	c.Drop(3)
	c.Put(page(9))
	if !slices.Equal(got, page(3)) || !slices.Equal(ids, []int{1, 2, 3, 4, 5, 6, 7, 8}) {
		t.Error(got, ids)
	}
}

// Each cache has numbers and pages of its own, at one time, too.
func TestOthers(t *testing.T) {
	var caches [8]*Cache
	var group sync.WaitGroup
	for k := range caches {
		group.Go(func() {
			c := New(8 + k)
			for i := range 300 {
				if !c.Room(1) {
					eldest, _ := c.Eldest()
					c.Drop(eldest)
				}
				c.Put(page(i*8 + k))
			}
			caches[k] = c
		})
	}
	group.Wait()
	for k, c := range caches {
		want := plainly(8 + k)
		for i := range 300 {
			want.drop(i + 1 - want.most)
			want.put(page(i*8 + k))
		}
		alike(t, c, want)
	}
}

func TestPagesAreThoseOfTheDevice(t *testing.T) {
	c := New(api.MinCache)
	if id, is := c.Put(make([]byte, api.PageBytes)); id != 1 || !is || New(api.MaxCache).Most() != api.MaxCache || c.Most() != api.MinCache {
		t.Error(id, is)
	}
}
