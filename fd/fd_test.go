package fd

import (
	"slices"
	"sync"
	"testing"

	"sump/api"
)

const (
	greatest = int(^uint(0) >> 1)
	least    = -greatest - 1
)

// draw is a row of numbers that is the same each time.
func draw(seed uint64) func(below int) int {
	x := seed*2862933555777941757 + 88172645463325252
	return func(below int) int {
		x ^= x << 13
		x ^= x >> 7
		x ^= x << 17
		return int(x >> 20 % uint64(below))
	}
}

// place is an open file by the chapter's words, and where it is.
type place struct {
	fd int
	o  api.Open
}

// plain is a table by the chapter's words: the places that are open, rising.
type plain struct{ open []place }

func (p *plain) at(fd int) (int, bool) {
	for i, x := range p.open {
		if x.fd == fd {
			return i, true
		}
	}
	return 0, false
}

func (p *plain) next() (int, bool) {
	for fd := range 16 {
		if _, is := p.at(fd); !is {
			return fd, true
		}
	}
	return 0, false
}

func (p *plain) put(o api.Open) (int, bool) {
	fd, is := p.next()
	if !is || o.Ino < 1 {
		return 0, false
	}
	p.open = append(p.open, place{fd, o})
	slices.SortFunc(p.open, func(a, b place) int { return a.fd - b.fd })
	return fd, true
}

func (p *plain) get(fd int) (api.Open, bool) {
	i, is := p.at(fd)
	if !is {
		return api.Open{}, false
	}
	return p.open[i].o, true
}

func (p *plain) set(fd int, o api.Open) bool {
	i, is := p.at(fd)
	if is && o.Ino >= 1 {
		p.open[i].o = o
		return true
	}
	return false
}

func (p *plain) drop(fd int) (api.Open, bool) {
	o, is := p.get(fd)
	if i, there := p.at(fd); there {
		p.open = slices.Delete(p.open, i, i+1)
	}
	return o, is
}

func (p *plain) users(ino int) int {
	many := 0
	for _, x := range p.open {
		if x.o.Ino == ino {
			many++
		}
	}
	return many
}

// some is an open file that no other number below 2^16 has.
func some(n int) api.Open { return api.Open{Ino: n%5 + 1, Off: n, Flags: n % 32} }

// upTo is a table of which the places below many are open: place i as some(i).
func upTo(t *testing.T, many int) (*Table, *plain) {
	t.Helper()
	table, want := New(), &plain{}
	for i := range many {
		if fd, is := table.Open(some(i)); fd != i || !is {
			t.Fatal(many, i, fd, is)
		}
		want.put(some(i))
	}
	return table, want
}

// Numbers of places and of nodes, at the edges and away from them.
var (
	anyFds  = []int{least, least + 1, -1 << 32, -17, -16, -1, 0, 1, 2, 7, 14, 15, 16, 17, 31, 32, 256, 1 << 32, 1<<32 + 1, greatest}
	anyInos = []int{least, -1 << 32, -2, -1, 0, 1, 2, 3, 4, 5, 6, 16, 1<<20 - 1, 1 << 20, 1<<20 + 1, 1 << 32, 1<<32 + 1, greatest}
)

// alike holds all that a table tells against what it should tell.
func alike(t *testing.T, table *Table, want *plain) {
	t.Helper()
	if table.Len() != len(want.open) || table.Full() != (len(want.open) == 16) {
		t.Fatal("len", table.Len(), "not", len(want.open), "full", table.Full())
	}
	fd, is := table.Next()
	if w, was := want.next(); fd != w || is != was {
		t.Fatal("next", fd, is, "not", w, was)
	}
	var all []api.Open
	for _, x := range want.open {
		all = append(all, x.o)
	}
	if l := table.All(); !slices.Equal(l, all) {
		t.Fatal("all", l, "not", all)
	}
	for _, fd := range append([]int{3, 4, 5, 6, 8, 9, 10, 11, 12, 13}, anyFds...) {
		o, is := table.Get(fd)
		if w, was := want.get(fd); o != w || is != was {
			t.Fatal("get", fd, o, is, "not", w, was)
		}
	}
	for _, ino := range anyInos {
		if table.Users(ino) != want.users(ino) {
			t.Fatal("users", ino, table.Users(ino), "not", want.users(ino))
		}
	}
}

// P24.1: New and Open.

func TestNewHasNothingOpen(t *testing.T) {
	alike(t, New(), &plain{})
}

func TestOpenTillAllAre(t *testing.T) {
	for many := range api.MaxFds + 1 {
		table, want := upTo(t, many)
		alike(t, table, want)
	}
	table, want := upTo(t, api.MaxFds)
	for i := range 3 {
		if fd, is := table.Open(some(100 + i)); fd != 0 || is {
			t.Fatal(i, fd, is)
		}
		alike(t, table, want)
	}
}

// The chapter's own example, and more of its kind: the least place that isn't open comes next.
func TestOpenTakesTheLeast(t *testing.T) {
	table := New()
	a, _ := table.Open(some(1))
	b, _ := table.Open(some(2))
	table.Close(0)
	if c, is := table.Open(some(3)); a != 0 || b != 1 || c != 0 || !is {
		t.Fatal(a, b, c, is)
	}
	table, want := upTo(t, 16)
	for _, fd := range []int{15, 3, 9, 0, 8} {
		table.Close(fd)
		want.drop(fd)
		alike(t, table, want)
	}
	for i, fd := range []int{0, 3, 8, 9, 15} {
		if next, is := table.Next(); next != fd || !is {
			t.Fatal("next", next, "not", fd)
		}
		if got, is := table.Open(some(50 + i)); got != fd || !is {
			t.Fatal(got, "not", fd)
		}
		want.put(some(50 + i))
		alike(t, table, want)
	}
}

// Each choice of places that are open: the least of the others is told by Next, and opened.
func TestEveryChoiceOfPlaces(t *testing.T) {
	for choice := range 1 << 16 {
		table, first := New(), 16
		for i := range 16 {
			table.Open(api.Open{Ino: i + 1})
		}
		for i := range 16 {
			if choice>>i&1 == 0 {
				table.Close(i)
				first = min(first, i)
			}
		}
		next, is := table.Next()
		full := first == 16
		if full {
			first = 0
		}
		if next != first || is == full || table.Full() != full {
			t.Fatal(choice, next, is, "not", first)
		}
		if fd, is := table.Open(api.Open{Ino: 99}); fd != first || is == full || (table.Users(99) == 0) != full {
			t.Fatal(choice, fd, is, "not", first)
		}
	}
}

// What may not be open changes nothing, whether there is a place for it or not.
func TestOpenOfNoNode(t *testing.T) {
	for _, many := range []int{0, 1, 15, 16} {
		table, want := upTo(t, many)
		for _, ino := range []int{0, -1, -2, -1 << 32, least} {
			for _, o := range []api.Open{{Ino: ino}, {Ino: ino, Off: 3, Flags: 1}} {
				if fd, is := table.Open(o); fd != 0 || is {
					t.Fatal(many, o, fd, is)
				}
				alike(t, table, want)
			}
		}
	}
}

// Nothing but Ino is asked about: all else is as it was given.
func TestOpenOfAnyNumbers(t *testing.T) {
	for _, ino := range []int{1, 2, 1 << 20, 1<<20 + 1, 1 << 32, greatest} {
		for _, x := range anyInos {
			for _, o := range []api.Open{{Ino: ino, Off: x}, {Ino: ino, Flags: x}, {Ino: ino, Off: x, Flags: -x}} {
				table := New()
				if fd, is := table.Open(o); fd != 0 || !is {
					t.Fatal(o, fd, is)
				}
				if got, is := table.Get(0); got != o || !is {
					t.Fatal(o, got, is)
				}
				if got, is := table.Close(0); got != o || !is || table.Len() != 0 {
					t.Fatal(o, got, is)
				}
			}
		}
	}
}

// P24.1: Get, Set and Close.

func TestOfNoPlace(t *testing.T) {
	for _, many := range []int{0, 1, 2, 15, 16} {
		table, want := upTo(t, many)
		for _, fd := range anyFds {
			if _, there := want.get(fd); there {
				continue
			}
			if o, is := table.Get(fd); o != (api.Open{}) || is {
				t.Fatal("get", many, fd, o, is)
			}
			if table.Set(fd, some(77)) || table.Set(fd, api.Open{}) {
				t.Fatal("set", many, fd)
			}
			if o, is := table.Close(fd); o != (api.Open{}) || is {
				t.Fatal("close", many, fd, o, is)
			}
			alike(t, table, want)
		}
	}
}

func TestSet(t *testing.T) {
	for _, many := range []int{1, 2, 15, 16} {
		table, want := upTo(t, many)
		for fd := range many {
			for _, o := range []api.Open{{Ino: 1}, {Ino: greatest, Off: -1, Flags: least}, {Ino: 3, Off: greatest}, some(60 + fd)} {
				if !table.Set(fd, o) {
					t.Fatal(many, fd, o)
				}
				want.set(fd, o)
				alike(t, table, want)
			}
			for _, ino := range []int{0, -1, -1 << 32, least} {
				if table.Set(fd, api.Open{Ino: ino, Off: 5, Flags: 2}) {
					t.Fatal(many, fd, ino)
				}
				alike(t, table, want)
			}
		}
	}
}

// A place that was closed isn't open again by a Set, nor has it anything of what it was.
func TestCloseAndWhatIsBehind(t *testing.T) {
	for fd := range 16 {
		table, want := upTo(t, 16)
		if o, is := table.Close(fd); o != some(fd) || !is {
			t.Fatal(fd, o, is)
		}
		want.drop(fd)
		alike(t, table, want)
		if o, is := table.Close(fd); o != (api.Open{}) || is || table.Set(fd, some(9)) {
			t.Fatal(fd, o, is)
		}
		alike(t, table, want)
		if got, is := table.Open(api.Open{Ino: 7}); got != fd || !is {
			t.Fatal(fd, got, is)
		}
		if o, is := table.Get(fd); o != (api.Open{Ino: 7}) || !is {
			t.Fatal(fd, o, is)
		}
	}
}

// P24.1: Users, Len and All.

func TestUsers(t *testing.T) {
	table := New()
	for i, ino := range []int{4, 2, 4, 4, 1 << 20, 2} {
		table.Open(api.Open{Ino: ino, Off: i, Flags: 9})
	}
	for _, c := range []struct{ ino, many int }{
		{4, 3}, {2, 2}, {1 << 20, 1}, {1, 0}, {3, 0}, {5, 0}, {9, 0}, {0, 0}, {-1, 0}, {-4, 0}, {least, 0}, {greatest, 0}, {1<<32 + 4, 0},
	} {
		if many := table.Users(c.ino); many != c.many {
			t.Error(c.ino, many, "not", c.many)
		}
	}
	table.Close(2)
	table.Set(0, api.Open{Ino: 2})
	if table.Users(4) != 1 || table.Users(2) != 3 || table.Users(0) != 0 || table.Len() != 5 {
		t.Error(table.Users(4), table.Users(2), table.Users(0), table.Len())
	}
	for range 20 {
		table.Open(api.Open{Ino: 2})
	}
	if table.Users(2) != 14 || table.Len() != 16 || !table.Full() {
		t.Error(table.Users(2), table.Len(), table.Full())
	}
}

// Places that aren't open are none's: no number has them, neither ahead of the first open, nor behind the last close.
func TestUsersOfNoNode(t *testing.T) {
	for many := range 17 {
		table, _ := upTo(t, many)
		for range 2 {
			for _, ino := range []int{0, -1, least} {
				if n := table.Users(ino); n != 0 {
					t.Fatal(many, ino, n)
				}
			}
			for fd := range many {
				table.Close(fd)
			}
		}
	}
}

func TestAllByPlace(t *testing.T) {
	table, _ := upTo(t, 4)
	table.Close(1)
	table.Close(2)
	table.Open(some(90))
	if l := table.All(); !slices.Equal(l, []api.Open{some(0), some(90), some(3)}) {
		t.Error(l)
	}
	table.Close(0)
	if l := table.All(); !slices.Equal(l, []api.Open{some(90), some(3)}) {
		t.Error(l)
	}
	table.Close(3)
	table.Close(1)
	if l := table.All(); len(l) != 0 {
		t.Error(l)
	}
}

// P24.1: any calls.

// act does one call to both, and holds what they tell against each other.
func act(t *testing.T, table *Table, want *plain, kind, fd int, o api.Open) {
	t.Helper()
	switch kind {
	case 0:
		got, is := table.Open(o)
		if w, was := want.put(o); got != w || is != was {
			t.Fatal("open", o, got, is, "not", w, was)
		}
	case 1:
		got, is := table.Close(fd)
		if w, was := want.drop(fd); got != w || is != was {
			t.Fatal("close", fd, got, is, "not", w, was)
		}
	case 2:
		if is, was := table.Set(fd, o), want.set(fd, o); is != was {
			t.Fatal("set", fd, o, is, "not", was)
		}
	}
}

// Each short row of calls, on a table that is empty and on one that is all but full.
func TestEveryShortRow(t *testing.T) {
	for _, begin := range []int{0, 14} {
		for row := range 8 * 8 * 8 * 8 {
			table, want := upTo(t, begin)
			for i := range 4 {
				kind, fd := row>>(3*i)&7, begin
				o := some(200 + i)
				if kind >= 6 { // what may not be open
					o.Ino = 6 - kind
				}
				if kind&1 == 1 {
					fd++
				}
				act(t, table, want, []int{0, 0, 1, 1, 2, 2, 0, 2}[kind], fd, o)
			}
			alike(t, table, want)
		}
	}
}

func TestAnyCalls(t *testing.T) {
	for seed := range uint64(300) {
		next := draw(seed)
		table, want := New(), &plain{}
		opens := next(6) + 1 // how often it is an Open, so that some tables are full and others all but empty
		for range 200 {
			kind := max(next(opens+2)-opens+1, 0)
			act(t, table, want, kind, next(20)-2, api.Open{Ino: next(8) - 1, Off: next(1<<20) - 9, Flags: next(40) - 4})
			if table.Len() != len(want.open) {
				t.Fatal(seed, table.Len())
			}
		}
		alike(t, table, want)
	}
}

// P24.1 and P1: what nobody made.

func TestNil(t *testing.T) {
	var table *Table
	for _, ino := range anyInos {
		if fd, is := table.Open(api.Open{Ino: ino, Off: 1, Flags: 1}); fd != 0 || is {
			t.Error("open", ino, fd, is)
		}
		if n := table.Users(ino); n != 0 {
			t.Error("users", ino, n)
		}
	}
	for _, fd := range anyFds {
		if o, is := table.Get(fd); o != (api.Open{}) || is {
			t.Error("get", fd, o, is)
		}
		if table.Set(fd, some(1)) || table.Set(fd, api.Open{}) {
			t.Error("set", fd)
		}
		if o, is := table.Close(fd); o != (api.Open{}) || is {
			t.Error("close", fd, o, is)
		}
	}
	fd, is := table.Next()
	if fd != 0 || is || table.Len() != 0 || table.Full() || len(table.All()) != 0 {
		t.Error(fd, is, table.Len(), table.Full(), table.All())
	}
}

// Of a zero Table P1 asks just that no call panics; here it is one of which no place is open.
func TestZero(t *testing.T) {
	table, want := &Table{}, &plain{}
	alike(t, table, want)
	for _, fd := range anyFds {
		act(t, table, want, 1, fd, api.Open{})
		act(t, table, want, 2, fd, some(1))
	}
	for i := range 17 {
		act(t, table, want, 0, 0, some(i))
	}
	alike(t, table, want)
}

// Rules that hold everywhere: P2 and P3.

func TestAnswersAreTheirOwn(t *testing.T) {
	table, want := upTo(t, 10)
	a, b := table.All(), table.All()
	clear(a[:cap(a)])
	if !slices.Equal(b, table.All()) || b[9] != some(9) {
		t.Error(b)
	}
	b = append(b, some(99))
	alike(t, table, want)
	l := table.All()
	for _, o := range l[len(l):cap(l)] {
		if o != (api.Open{}) {
			t.Error("behind the list's length", o)
		}
	}
}

// What was told stays as it was told when places change.
func TestAnswersStay(t *testing.T) {
	table, _ := upTo(t, 3)
	all := table.All()
	o, _ := table.Get(1)
	table.Set(1, some(70))
	table.Close(2)
	table.Open(some(71))
	if !slices.Equal(all, []api.Open{some(0), some(1), some(2)}) || o != some(1) {
		t.Error(all, o)
	}
}

// What only tells changes nothing.
func TestTellingChangesNothing(t *testing.T) {
	table, want := upTo(t, 7)
	table.Close(3)
	want.drop(3)
	for range 3 {
		alike(t, table, want)
	}
}

// Each table has places of its own, at one time, too.
func TestOthers(t *testing.T) {
	var tables [8]*Table
	var group sync.WaitGroup
	for k := range tables {
		group.Go(func() {
			table := New()
			for i := range 16 {
				table.Open(some(i + 16*k))
			}
			for fd := range k {
				table.Close(fd)
			}
			tables[k] = table
		})
	}
	group.Wait()
	for k, table := range tables {
		want := &plain{}
		for i := range 16 {
			want.put(some(i + 16*k))
		}
		for fd := range k {
			want.drop(fd)
		}
		alike(t, table, want)
	}
}
