package dirs

import (
	"slices"
	"strconv"
	"strings"
	"sync"
	"testing"
	"unsafe"

	"sump/api"
)

const (
	greatest = int(^uint(0) >> 1)
	least    = -greatest - 1
	mostIno  = 1048576
)

// draw is a row of numbers that is the same each time.
func draw(seed uint64) func(below int) int {
	x := seed*2862933555777941757 + 88172645463325252
	return func(below int) int {
		x ^= x << 13
		x ^= x >> 7
		x ^= x << 17
		return int(x >> 20 % uint64(below))
	}
}

// row has an entry of each name, with nodes from 2 on.
func row(names ...string) []api.Entry {
	var l []api.Entry
	for i, s := range names {
		l = append(l, api.Entry{Name: s, Ino: i + 2})
	}
	return l
}

// plainLess is P8.2 byte by byte.
func plainLess(a, b string) bool {
	for i := 0; i < len(a) && i < len(b); i++ {
		if a[i] != b[i] {
			return a[i] < b[i]
		}
	}
	return len(a) < len(b)
}

// plainMay is P8.1's Check of a name.
func plainMay(s string) bool {
	if len(s) == 0 || len(s) > 24 || s == "." || s == ".." {
		return false
	}
	for i := range len(s) {
		if s[i] == '/' || s[i] == 0 {
			return false
		}
	}
	return true
}

func plainRight(l []api.Entry) bool {
	for i := range l {
		if !plainMay(l[i].Name) || l[i].Ino < 1 || l[i].Ino > mostIno {
			return false
		}
		if i+1 < len(l) && !plainLess(l[i].Name, l[i+1].Name) {
			return false
		}
	}
	return true
}

func plainFind(l []api.Entry, s string) (int, bool) {
	for i := range l {
		if l[i].Name == s {
			return l[i].Ino, true
		}
	}
	return 0, false
}

func plainPut(l []api.Entry, s string, ino int) ([]api.Entry, bool) {
	if _, there := plainFind(l, s); there {
		return l, false
	}
	var out []api.Entry
	done := false
	for _, e := range l {
		if !done && plainLess(s, e.Name) {
			out = append(out, api.Entry{Name: s, Ino: ino})
			done = true
		}
		out = append(out, e)
	}
	if !done {
		out = append(out, api.Entry{Name: s, Ino: ino})
	}
	return out, true
}

func plainDrop(l []api.Entry, s string) ([]api.Entry, bool) {
	var out []api.Entry
	dropped := false
	for _, e := range l {
		if e.Name == s {
			dropped = true
		} else {
			out = append(out, e)
		}
	}
	return out, dropped
}

func plainNames(l []api.Entry) []string {
	var out []string
	for _, e := range l {
		out = append(out, e.Name)
	}
	return out
}

func plainCount(l []api.Entry, ino int) int {
	n := 0
	for _, e := range l {
		if e.Ino == ino {
			n += 1
		}
	}
	return n
}

// names may be, or may not; some begin others, and their bytes aren't in the order of their runes.
func names() []string {
	return []string{
		"", ".", "..", "...", "a", "aa", "ab", "abc", "b", "B", " ", "-", "a/b", "/", "a\x00", "\x00", "\x01",
		"\x7f", "\x80", "\xff", "\xff\xff", "é", "e\u0301", "\uffff", "\U00010000", "0", "10", "2",
		strings.Repeat("n", 23), strings.Repeat("n", 24), strings.Repeat("n", 25), strings.Repeat("n", 24) + "a", strings.Repeat("é", 12), strings.Repeat("é", 12) + "x",
	}
}

// may has the names that may be.
func may() []string {
	return slices.DeleteFunc(names(), func(s string) bool { return !plainMay(s) })
}

func edges() []int {
	return []int{least, least + 1, -mostIno, -1, 0, 1, 2, 3, mostIno - 1, mostIno, mostIno + 1, greatest - 1, greatest}
}

// several are lists that are Right, and some that aren't.
func several() [][]api.Entry {
	return [][]api.Entry{
		nil,
		{},
		row("a"),
		row("b"),
		row(""),
		row("a", "b"),
		row("b", "a"),
		row("a", "a"),
		row("a", "b", "a"),
		row("c", "a", "b", "c"),
		row("a", "ab", "abc", "b", "é"),
		row("b", "d", "c", "e", "a"),
		row(names()...),
		row(may()...),
		{{Name: "a", Ino: 1}, {Name: "b", Ino: 1}, {Name: "c", Ino: mostIno}},
		{{Name: "a", Ino: 0}, {Name: "b", Ino: -1}, {Name: "c", Ino: greatest}, {Name: "d", Ino: least}},
	}
}

// alike holds all that can be asked of l against the plain answers.
func alike(t *testing.T, l []api.Entry, s string, ino int) {
	t.Helper()
	if Right(l) != plainRight(l) {
		t.Fatal(l, "right", Right(l))
	}
	if got := Names(l); !slices.Equal(got, plainNames(l)) {
		t.Fatal(l, "names", got)
	}
	if got := Count(l, ino); got != plainCount(l, ino) {
		t.Fatal(l, "count", ino, got)
	}
	got, is := Find(l, s)
	if want, there := plainFind(l, s); got != want || is != there {
		t.Fatal(l, "find", s, got, is)
	}
	put, is := Put(l, s, ino)
	if want, done := plainPut(l, s, ino); !slices.Equal(put, want) || is != done {
		t.Fatal(l, "put", s, ino, put, is)
	}
	left, is := Drop(l, s)
	if want, done := plainDrop(l, s); !slices.Equal(left, want) || is != done {
		t.Fatal(l, "drop", s, left, is)
	}
}

// P15.1: Right.

func TestRight(t *testing.T) {
	for _, l := range [][]api.Entry{
		nil,
		{},
		row("a"),
		row("a", "b"),
		row("a", "aa"),
		row("a", "aa", "ab", "b"),
		row("B", "a"),
		row("10", "2"),
		row("z", "é"),
		row("\uffff", "\U00010000"),
		row("\x01", "...", "\xff", "\xff\xff"),
		row(strings.Repeat("n", 23), strings.Repeat("n", 24)),
		{{Name: "a", Ino: 1}},
		{{Name: "a", Ino: mostIno}},
		{{Name: "a", Ino: 7}, {Name: "b", Ino: 7}},
		{{Name: "a", Ino: 7}, {Name: "b", Ino: 6}},
	} {
		if !Right(l) {
			t.Error(l)
		}
	}
	for _, l := range [][]api.Entry{
		row(""),
		row("."),
		row(".."),
		row("a/b"),
		row("/"),
		row("a\x00"),
		row(strings.Repeat("n", 25)),
		row("a", "a"),
		row("b", "a"),
		row("aa", "a"),
		row("a", "c", "b"),
		row("a", "b", "b"),
		row("a", "b", "b/"),
		row("", "a"),
		row("a", "b", ""),
		{{Name: "a", Ino: 0}},
		{{Name: "a", Ino: -1}},
		{{Name: "a", Ino: mostIno + 1}},
		{{Name: "a", Ino: least}},
		{{Name: "a", Ino: greatest}},
		{{Name: "a", Ino: 2}, {Name: "b", Ino: 0}},
		{{Name: "a", Ino: 0}, {Name: "b", Ino: 2}},
	} {
		if Right(l) {
			t.Error(l)
		}
	}
}

func TestRightOfEachNameAndEachNode(t *testing.T) {
	for _, s := range names() {
		for _, ino := range edges() {
			if l := []api.Entry{{Name: s, Ino: ino}}; Right(l) != plainRight(l) {
				t.Error(l)
			}
		}
	}
}

func TestRightOfEachTwoNames(t *testing.T) {
	for _, a := range names() {
		for _, b := range names() {
			if l := row(a, b); Right(l) != plainRight(l) {
				t.Error(l)
			}
		}
	}
}

func TestRightOfOneThingWrong(t *testing.T) {
	whole := row("a", "b", "d", "e", "g")
	for i := range whole {
		for _, s := range append(names(), "c", "d", "e", "f", "g", "h") {
			l := slices.Clone(whole)
			l[i].Name = s
			if Right(l) != plainRight(l) {
				t.Error(l)
			}
		}
		for _, ino := range edges() {
			l := slices.Clone(whole)
			l[i].Ino = ino
			if Right(l) != plainRight(l) {
				t.Error(l)
			}
		}
	}
}

// P15.1: Find.

func TestFind(t *testing.T) {
	if ino, is := Find(nil, "a"); ino != 0 || is {
		t.Error("find of nothing", ino, is)
	}
	l := []api.Entry{{Name: "b", Ino: 4}, {Name: "d", Ino: 2}, {Name: "bb", Ino: 9}, {Name: "d", Ino: 3}, {Name: "", Ino: 5}, {Name: "n", Ino: 0}, {Name: "a", Ino: -6}}
	for _, c := range []struct {
		s   string
		ino int
		is  bool
	}{
		{"b", 4, true}, {"d", 2, true}, {"bb", 9, true}, {"", 5, true}, {"n", 0, true}, {"a", -6, true},
		{"c", 0, false}, {"bbb", 0, false}, {"B", 0, false}, {"e", 0, false}, {"b\x00", 0, false}, {".", 0, false},
	} {
		if ino, is := Find(l, c.s); ino != c.ino || is != c.is {
			t.Error(c.s, ino, is)
		}
	}
}

// P15.1: Put.

func TestPut(t *testing.T) {
	for _, c := range []struct {
		l    []api.Entry
		s    string
		want []string
		is   bool
	}{
		{nil, "a", []string{"a"}, true},
		{nil, "", []string{""}, true},
		{row("b", "d"), "a", []string{"a", "b", "d"}, true},
		{row("b", "d"), "b", []string{"b", "d"}, false},
		{row("b", "d"), "c", []string{"b", "c", "d"}, true},
		{row("b", "d"), "d", []string{"b", "d"}, false},
		{row("b", "d"), "e", []string{"b", "d", "e"}, true},
		{row("b", "d"), "bb", []string{"b", "bb", "d"}, true},
		{row("b", "d"), "B", []string{"B", "b", "d"}, true},
		{row("b", "d"), "é", []string{"b", "d", "é"}, true},
		{row("b", "d"), "", []string{"", "b", "d"}, true},
		{row("b", "d"), "a/b", []string{"a/b", "b", "d"}, true},
		{row("d", "b"), "c", []string{"c", "d", "b"}, true},
		{row("d", "b"), "a", []string{"a", "d", "b"}, true},
		{row("d", "b"), "b", []string{"d", "b"}, false},
		{row("a", "d", "b", "e"), "c", []string{"a", "c", "d", "b", "e"}, true},
		{row("d", "e", "b"), "b", []string{"d", "e", "b"}, false},
		{row("b", "b"), "b", []string{"b", "b"}, false},
		{row("b", "b"), "c", []string{"b", "b", "c"}, true},
	} {
		l, is := Put(c.l, c.s, 77)
		if !slices.Equal(plainNames(l), c.want) || is != c.is {
			t.Error(c.l, c.s, l, is)
		}
		if want, _ := plainPut(c.l, c.s, 77); !slices.Equal(l, want) {
			t.Error(c.l, c.s, l)
		}
	}
}

func TestPutOfAnyNode(t *testing.T) {
	for _, ino := range edges() {
		l, is := Put(row("a", "c"), "b", ino)
		if !is || !slices.Equal(l, []api.Entry{{Name: "a", Ino: 2}, {Name: "b", Ino: ino}, {Name: "c", Ino: 3}}) {
			t.Error(ino, l, is)
		}
		l, is = Put(row("a", "c"), "c", ino)
		if is || !slices.Equal(l, row("a", "c")) {
			t.Error(ino, l, is)
		}
	}
}

// P15.1: Drop.

func TestDrop(t *testing.T) {
	for _, c := range []struct {
		l    []api.Entry
		s    string
		want []string
		is   bool
	}{
		{nil, "a", nil, false},
		{nil, "", nil, false},
		{row("a"), "a", nil, true},
		{row("a"), "b", []string{"a"}, false},
		{row("a"), "", []string{"a"}, false},
		{row("a", "b", "c"), "a", []string{"b", "c"}, true},
		{row("a", "b", "c"), "b", []string{"a", "c"}, true},
		{row("a", "b", "c"), "c", []string{"a", "b"}, true},
		{row("a", "b", "c"), "bb", []string{"a", "b", "c"}, false},
		{row("b", "a", "b", "", "b"), "b", []string{"a", ""}, true},
		{row("b", "a", "b", "", "b"), "", []string{"b", "a", "b", "b"}, true},
		{row("b", "b"), "b", nil, true},
		{row("a/b", "."), ".", []string{"a/b"}, true},
	} {
		l, is := Drop(c.l, c.s)
		if !slices.Equal(plainNames(l), c.want) || is != c.is {
			t.Error(c.l, c.s, l, is)
		}
		if want, _ := plainDrop(c.l, c.s); !slices.Equal(l, want) {
			t.Error(c.l, c.s, l)
		}
	}
}

// P15.1: Names and Count.

func TestNames(t *testing.T) {
	for _, l := range several() {
		if got := Names(l); !slices.Equal(got, plainNames(l)) {
			t.Error(l, got)
		}
	}
	if got := Names(row("b", "", "a", "b")); !slices.Equal(got, []string{"b", "", "a", "b"}) {
		t.Error(got)
	}
}

func TestCount(t *testing.T) {
	l := []api.Entry{{Name: "a", Ino: 4}, {Name: "b", Ino: 0}, {Name: "b", Ino: 4}, {Name: "c", Ino: -1}, {Name: "", Ino: 4}, {Name: "d", Ino: greatest}}
	for _, c := range []struct{ ino, want int }{
		{4, 3}, {0, 1}, {-1, 1}, {greatest, 1}, {least, 0}, {1, 0}, {3, 0}, {5, 0},
	} {
		if got := Count(l, c.ino); got != c.want {
			t.Error(c.ino, got)
		}
		if got := Count(nil, c.ino); got != 0 {
			t.Error("of none", c.ino, got)
		}
	}
}

// P15.1: all together.

func TestEachOfSeveral(t *testing.T) {
	for _, l := range several() {
		for _, s := range names() {
			for _, ino := range edges() {
				alike(t, l, s, ino)
			}
		}
	}
}

func TestDrawnLists(t *testing.T) {
	for seed := range uint64(400) {
		next := draw(seed)
		var l []api.Entry
		for range next(9) {
			l = append(l, api.Entry{Name: drawnName(next), Ino: next(6) - 1})
		}
		for range 12 {
			alike(t, l, drawnName(next), next(6)-1)
		}
	}
}

// drawnName is short, so that many are alike, and many begin others.
func drawnName(next func(int) int) string {
	s := ""
	for range next(4) {
		s += []string{"a", "b", ".", "\xff", "é"}[next(5)]
	}
	return s
}

// P15.2: Right stays right.

func TestRightStaysRight(t *testing.T) {
	for seed := range uint64(200) {
		next := draw(seed)
		var l []api.Entry
		for range 60 {
			all := may()
			s := all[next(len(all))]
			if next(3) == 0 {
				l, _ = Drop(l, s)
			} else {
				l, _ = Put(l, s, []int{1, 2, 5, mostIno}[next(4)])
			}
			if !Right(l) || !plainRight(l) {
				t.Fatal(seed, s, l)
			}
		}
	}
}

func TestEachOrderOfPutsComesToTheSame(t *testing.T) {
	want := may()
	slices.SortFunc(want, func(a, b string) int {
		if plainLess(a, b) {
			return -1
		}
		return 1
	})
	for seed := range uint64(100) {
		next, left := draw(seed), may()
		var l []api.Entry
		for len(left) > 0 {
			i := next(len(left))
			more, is := Put(l, left[i], 3)
			if !is || !Right(more) || len(more) != len(l)+1 {
				t.Fatal(seed, left[i], l, more)
			}
			l, left = more, slices.Delete(left, i, i+1)
		}
		if !slices.Equal(Names(l), want) {
			t.Fatal(seed, Names(l))
		}
	}
}

func TestPutAndDropAgain(t *testing.T) {
	for _, l := range several() {
		for _, s := range names() {
			more, is := Put(l, s, 9)
			if !is {
				continue
			}
			if ino, there := Find(more, s); ino != 9 || !there {
				t.Error(l, s, ino, there)
			}
			if left, is := Drop(more, s); !is || !slices.Equal(left, l) {
				t.Error(l, s, left, is)
			}
		}
	}
}

func TestMany(t *testing.T) {
	var l []api.Entry
	for i := range 700 {
		l, _ = Put(l, strconv.Itoa(i*463%700), i+1)
	}
	if len(l) != 700 || !Right(l) {
		t.Fatal(len(l))
	}
	for i := range 700 {
		if ino, is := Find(l, strconv.Itoa(i*463%700)); ino != i+1 || !is || Count(l, ino) != 1 {
			t.Fatal(i, ino, is)
		}
	}
}

// Rules that hold everywhere: P2 and P3.

// hidden is l with things behind its end, and the whole of it.
func hidden(l []api.Entry) ([]api.Entry, []api.Entry) {
	whole := append(slices.Clone(l), row("hidden", "h", "zz")...)
	return whole[:len(l)], whole
}

// spoil writes over all that a list has room for.
func spoil(l []api.Entry) {
	l = l[:cap(l)]
	for i := range l {
		l[i] = api.Entry{Name: "spoilt", Ino: -7}
	}
}

func TestArgumentsStayAsTheyAre(t *testing.T) {
	for _, plain := range several() {
		l, whole := hidden(plain)
		want := slices.Clone(whole)
		for _, s := range append(names(), "h", "zz", "hidden") {
			put, _ := Put(l, s, 5)
			spoil(put)
			left, _ := Drop(l, s)
			spoil(left)
			Find(l, s)
		}
		told := Names(l)
		told = told[:cap(told)]
		for i := range told {
			told[i] = "spoilt"
		}
		Right(l)
		Count(l, 2)
		if !slices.Equal(whole, want) {
			t.Error(plain, whole)
		}
	}
}

func TestWhatLiesBehindIsNeitherReadNorHandedOut(t *testing.T) {
	for _, plain := range several() {
		l, _ := hidden(plain)
		for _, s := range []string{"", "a", "b", "h", "hidden", "zz", "zzz"} {
			for _, ino := range []int{2, 3, 4} {
				alike(t, l, s, ino)
				put, _ := Put(l, s, ino)
				left, _ := Drop(l, s)
				if shown(put) || shown(left) {
					t.Error(plain, s)
				}
			}
		}
	}
}

// shown tells whether something stands behind l's end, where it has room.
func shown(l []api.Entry) bool {
	for _, e := range l[len(l):cap(l)] {
		if e != (api.Entry{}) {
			return true
		}
	}
	return false
}

// apart tells whether no text shares its bytes with one of the others.
func apart(texts, others []string) bool {
	for _, s := range texts {
		for _, o := range others {
			if s != "" && o != "" && unsafe.StringData(s) == unsafe.StringData(o) {
				return false
			}
		}
	}
	return true
}

func TestTextsAreTheirOwn(t *testing.T) {
	l, s := row("aa", "ccc", "ee"), strings.Repeat("d", 3)
	put, _ := Put(l, s, 5)
	refused, _ := Put(l, "ccc", 5)
	left, _ := Drop(l, "aa")
	whole, _ := Drop(l, "x")
	given := append(plainNames(l), s)
	for i, got := range [][]string{plainNames(put), plainNames(refused), plainNames(left), plainNames(whole), Names(l)} {
		if !apart(got, given) {
			t.Error(i, got)
		}
	}
}

func TestNilIsLikeEmpty(t *testing.T) {
	for _, l := range [][]api.Entry{nil, {}, row("a")[:0]} {
		if !Right(l) || len(Names(l)) != 0 || Count(l, 2) != 0 {
			t.Error("none tells something")
		}
		alike(t, l, "a", 2)
	}
}

func TestOneListAskedAtOneTime(t *testing.T) {
	l := row("a", "c", "e", "g")
	var group sync.WaitGroup
	for range 8 {
		group.Go(func() {
			for _, s := range []string{"b", "d", "f"} {
				put, is := Put(l, s, 9)
				left, dropped := Drop(put, s)
				if !is || !dropped || !Right(put) || !slices.Equal(left, l) || Count(l, 9) != 0 || len(Names(put)) != 5 {
					t.Error(s)
				}
			}
		})
	}
	group.Wait()
}
