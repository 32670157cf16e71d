package tree

import (
	"bytes"
	"slices"
	"strings"
	"testing"
	"unsafe"

	"sump/api"
)

// P23.2

func d(path string, ino int) api.Item { return api.Item{Path: path, Ino: ino, Kind: 2} }

func f(path string, ino int, data string) api.Item {
	return api.Item{Path: path, Ino: ino, Kind: 1, Size: len(data), Data: []byte(data)}
}

// listed is a list of a tree, in which node 3 has two names.
func listed() []api.Item {
	return []api.Item{d("/", 1), d("/a", 2), f("/a/x", 3, "one"), f("/a/y", 4, ""), f("/b", 3, "one"), d("/c", 5)}
}

// changes make another list of a list in one thing each; those of numbers are told apart.
func changes() (numbers, others map[string]func(l []api.Item) []api.Item) {
	numbers = map[string]func(l []api.Item) []api.Item{
		"one number":          func(l []api.Item) []api.Item { l[5].Ino = 6; return l },
		"a number below 0":    func(l []api.Item) []api.Item { l[1].Ino = -1; return l },
		"root's number":       func(l []api.Item) []api.Item { l[0].Ino = 7; return l },
		"a number in a name":  func(l []api.Item) []api.Item { l[2].Ino = 6; return l },
		"a number in another": func(l []api.Item) []api.Item { l[4].Ino = 6; return l },
		"two become one":      func(l []api.Item) []api.Item { l[3].Ino = 5; return l },
		"three are one":       func(l []api.Item) []api.Item { l[3].Ino = 3; return l },
	}
	others = map[string]func(l []api.Item) []api.Item{
		"a path":            func(l []api.Item) []api.Item { l[2].Path = "/a/z"; return l },
		"no path":           func(l []api.Item) []api.Item { l[0].Path = ""; return l },
		"a longer path":     func(l []api.Item) []api.Item { l[5].Path += "c"; return l },
		"a kind":            func(l []api.Item) []api.Item { l[5].Kind = 1; return l },
		"no kind":           func(l []api.Item) []api.Item { l[0].Kind = 0; return l },
		"a size":            func(l []api.Item) []api.Item { l[2].Size = 4; return l },
		"a directory's":     func(l []api.Item) []api.Item { l[1].Size = 1; return l },
		"a byte":            func(l []api.Item) []api.Item { l[4].Data[2]++; return l },
		"a byte less":       func(l []api.Item) []api.Item { l[4].Data = l[4].Data[:2]; return l },
		"a byte more":       func(l []api.Item) []api.Item { l[2].Data = append(l[2].Data, 0); return l },
		"no bytes":          func(l []api.Item) []api.Item { l[2].Data = nil; return l },
		"a directory's too": func(l []api.Item) []api.Item { l[0].Data = []byte{0}; return l },
		"one less":          func(l []api.Item) []api.Item { return l[:5] },
		"one less in front": func(l []api.Item) []api.Item { return l[1:] },
		"one more":          func(l []api.Item) []api.Item { return append(l, d("/d", 6)) },
		"one twice":         func(l []api.Item) []api.Item { return append(l, l[5]) },
		"one of nothing":    func(l []api.Item) []api.Item { return append(l, api.Item{}) },
		"none":              func(l []api.Item) []api.Item { return nil },
		"another order":     func(l []api.Item) []api.Item { l[3], l[4] = l[4], l[3]; return l },
		"turned round":      func(l []api.Item) []api.Item { slices.Reverse(l); return l },
	}
	return numbers, others
}

func TestSame(t *testing.T) {
	if !Same(listed(), listed()) || !Same(nil, nil) || !Same(nil, []api.Item{}) || !Same([]api.Item{}, nil) || !Same([]api.Item{{}}, []api.Item{{}}) {
		t.Error("alike in all")
	}
	numbers, others := changes()
	for _, all := range []map[string]func(l []api.Item) []api.Item{numbers, others} {
		for name, change := range all {
			l := change(listed())
			if Same(l, listed()) || Same(listed(), l) {
				t.Error(name)
			}
			if !Same(l, change(listed())) {
				t.Error(name, "in both")
			}
		}
	}
}

// An empty Data and none are the same, everywhere.
func TestNoDataIsEmptyData(t *testing.T) {
	a, b := listed(), listed()
	a[0].Data, b[0].Data = []byte{}, nil
	a[3].Data, b[3].Data = nil, make([]byte, 0, 9)
	if !Same(a, b) || !Same(b, a) || !Alike(a, b) || !Alike(b, a) || !Right(a) || !Right(b) {
		t.Error("not the same")
	}
}

func TestAlike(t *testing.T) {
	for i, c := range []struct {
		numbers [6]int
		want    bool
	}{
		{[6]int{1, 2, 3, 4, 3, 5}, true}, {[6]int{5, 4, 3, 2, 3, 1}, true}, {[6]int{2, 3, 4, 5, 4, 1}, true}, {[6]int{3, 1, 2, 5, 2, 4}, true}, {[6]int{0, -1, greatest, least, greatest, 1 << 40}, true},
		{[6]int{1, 2, 3, 4, 6, 5}, false}, {[6]int{1, 2, 3, 3, 3, 5}, false}, {[6]int{1, 2, 3, 4, 4, 5}, false}, {[6]int{1, 2, 4, 3, 3, 5}, false}, {[6]int{1, 2, 3, 4, 3, 1}, false}, {[6]int{1, 1, 3, 4, 3, 5}, false},
		{[6]int{0, 0, 0, 0, 0, 0}, false}, {[6]int{1, 2, 3, 4, 5, 6}, false}, {[6]int{3, 2, 3, 4, 1, 5}, false}, {[6]int{1, 2, 3, 4, 3, 4}, false},
	} {
		l := listed()
		for k, ino := range c.numbers {
			l[k].Ino = ino
		}
		if Alike(l, listed()) != c.want || Alike(listed(), l) != c.want || !Alike(l, clones(l)) || plainAlike(l, listed()) != c.want {
			t.Error(i, c)
		}
	}
	if !Alike(nil, nil) || !Alike(nil, []api.Item{}) || !Alike([]api.Item{}, nil) {
		t.Error("none")
	}
}

func TestAlikeInAllElse(t *testing.T) {
	numbers, others := changes()
	for name, change := range others {
		l := change(listed())
		if Alike(l, listed()) || Alike(listed(), l) || !Alike(l, change(listed())) {
			t.Error(name)
		}
	}
	for name, change := range numbers {
		l := change(listed())
		want := plainAlike(l, listed())
		if Alike(l, listed()) != want || Alike(listed(), l) != want {
			t.Error(name)
		}
	}
}

// All lists of up to five items by their numbers, any two of them.
func TestAlikeByAnyNumbers(t *testing.T) {
	var all [][]api.Item
	for many := range 6 {
		for code := range 1 << (2 * many) {
			l := make([]api.Item, many)
			for i := range l {
				l[i] = d("/", code>>(2*i)&3-1)
			}
			if many < 5 || code%7 == 0 {
				all = append(all, l)
			}
		}
	}
	for _, a := range all {
		for _, b := range all {
			if got, want := Alike(a, b), plainAlike(a, b); got != want {
				t.Fatal(a, b, got)
			}
			if got := Same(a, b); got != sameLists(a, b) {
				t.Fatal(a, b, got)
			}
		}
	}
}

func TestFind(t *testing.T) {
	l := append(listed(), f("/a/x", 9, "two"), api.Item{Path: "", Ino: 10, Kind: 7, Size: -1, Data: []byte{1}}, f("", 11, ""), d("//a", 12), d("/A", 13), d("/a/", 14), d("\xff", 15))
	for _, c := range []struct {
		path string
		want int
	}{
		{"/", 0}, {"/a", 1}, {"/a/x", 2}, {"/a/y", 3}, {"/b", 4}, {"/c", 5}, {"", 7}, {"//a", 9}, {"/A", 10}, {"/a/", 11}, {"\xff", 12},
		{"/a/x/", -1}, {"a", -1}, {"/a/z", -1}, {"//", -1}, {"/C", -1}, {"/c/", -1}, {"/a/x ", -1}, {"\x00", -1}, {"/\xff", -1}, {strings.Repeat("/a", 1000), -1},
	} {
		got, is := Find(l, c.path)
		want := api.Item{}
		if c.want >= 0 {
			want = l[c.want]
		}
		if is != (c.want >= 0) || !sameLists([]api.Item{got}, []api.Item{want}) {
			t.Errorf("%q: %v, %v", c.path, got, is)
		}
		if got, is := Find(nil, c.path); is || !sameLists([]api.Item{got}, []api.Item{{}}) {
			t.Errorf("%q of none: %v, %v", c.path, got, is)
		}
	}
}

func sized(sizes ...int) []api.Item {
	var l []api.Item
	for _, size := range sizes {
		l = append(l, api.Item{Path: "/", Size: size})
	}
	return l
}

func TestSize(t *testing.T) {
	const most = 1 << 40
	for i, c := range []struct {
		sizes []int
		want  int
	}{
		{nil, 0}, {[]int{0}, 0}, {[]int{1}, 1}, {[]int{1, 2, 3}, 6}, {[]int{16384, 0, 16384}, 32768}, {[]int{7, 7}, 14},
		{[]int{-1}, 0}, {[]int{-1, 5}, 5}, {[]int{5, -5}, 5}, {[]int{least}, 0}, {[]int{least, 3, least}, 3},
		{[]int{most}, most}, {[]int{most - 1}, most - 1}, {[]int{most + 1}, 0}, {[]int{most + 1, 3}, 3}, {[]int{most, most}, 2 * most}, {[]int{1 << 60}, 0}, {[]int{greatest}, 0}, {[]int{greatest, 1, greatest, 1}, 2},
	} {
		if got := Size(sized(c.sizes...)); got != c.want {
			t.Error(i, got)
		}
	}
	if got := Size(listed()); got != 6 {
		t.Error(got)
	}
	if l := append(listed(), api.Item{Kind: 2, Size: 3}, api.Item{Kind: 9, Size: 4, Data: []byte("123456")}, api.Item{Size: 5}); Size(l) != 18 {
		t.Error(Size(l))
	}
}

// Up to 2^60 all counts, and no list comes to more, nor to so much that it wraps round: 2^23 times 2^40 is the first to.
func TestSizeAtTheMost(t *testing.T) {
	const one, all = 1 << 40, 1 << 60
	l := make([]api.Item, 1<<23)
	for i := range l {
		l[i].Size = one
	}
	for _, c := range []struct{ many, want int }{{1<<20 - 1, all - one}, {1 << 20, all}, {1<<20 + 1, all}, {1 << 21, all}, {len(l), all}} {
		if got := Size(l[:c.many]); got != c.want {
			t.Error(c.many, got)
		}
	}
	l = l[:1<<20+1]
	l[0].Size, l[7].Size = one-1, 0
	for _, c := range []struct{ last, want int }{{0, all - one - 1}, {1, all - one}, {one - 1, all - 2}, {one, all - 1}, {-1, all - one - 1}, {one + 1, all - one - 1}} {
		l[1<<20].Size = c.last
		if got := Size(l); got != c.want {
			t.Error(c, got)
		}
	}
	l[7].Size = 2
	if got := Size(l); got != all-one-1+2 {
		t.Error(got)
	}
	l[1<<20].Size = one
	if got := Size(l); got != all {
		t.Error(got)
	}
}

func TestSizeByTheWords(t *testing.T) {
	next := draw(3)
	edges := []int{0, 1, -1, 255, 16384, 1<<40 - 1, 1 << 40, 1<<40 + 1, 1 << 60, greatest, least}
	for range 500 {
		var sizes []int
		for range next(12) {
			sizes = append(sizes, edges[next(len(edges))])
		}
		if got, want := Size(sized(sizes...)), plainSize(sized(sizes...)); got != want {
			t.Error(sizes, got, want)
		}
	}
}

func TestRight(t *testing.T) {
	for i, c := range []struct {
		l    []api.Item
		want bool
	}{
		{listed(), true},
		{[]api.Item{d("/", 1)}, true},
		{[]api.Item{d("/", 0), d("/a", 0)}, true},                                      // numbers are any
		{[]api.Item{d("/", 1), f("/b", 2, "x"), f("/a", 3, "")}, true},                 // names of one directory in any order
		{[]api.Item{d("/", 1), d("/a", 2), f("/b", 3, "x"), f("/a/x", 4, "y")}, true},  // a directory just has to be ahead
		{[]api.Item{d("/", 1), d("/a", 2), d("/a/b", 3), d("/a/b/c", 4)}, true},        // one in the other
		{[]api.Item{d("/", 1), {Path: "/a", Kind: 2, Size: 9, Data: []byte{1}}}, true}, // Data and Size are asked of files alone
		{[]api.Item{d("/", 1), {Path: "/a", Kind: 7, Size: 9}}, true},
		{[]api.Item{{Path: "/", Kind: 2, Size: -1}}, true},
		{[]api.Item{d("/", 1), d("//", 2), d("/a", 3), d("/a/", 4), d("/a//", 5), d("//b", 6)}, true}, // by the words, whether or not a name may be empty

		{nil, false},
		{[]api.Item{}, false},
		{[]api.Item{{}}, false},
		{[]api.Item{f("/", 1, "")}, false},
		{[]api.Item{{Path: "/"}}, false},
		{[]api.Item{{Path: "/", Kind: 3}}, false},
		{[]api.Item{d("", 1)}, false},
		{[]api.Item{d("//", 1)}, false},
		{[]api.Item{d("/a", 1)}, false},
		{[]api.Item{d("/a", 1), d("/", 1)}, false},
		{[]api.Item{f("/a", 2, ""), d("/", 1)}, false},
		{listed()[1:], false},
		{[]api.Item{d("/", 1), d("/", 2)}, false},
		{[]api.Item{d("/", 1), f("/a", 2, ""), f("/a", 2, "")}, false},
		{[]api.Item{d("/", 1), f("/a", 2, ""), d("/a", 3)}, false},
		{[]api.Item{d("/", 1), d("/a", 2), f("/b", 3, ""), f("/a", 4, "")}, false},
		{[]api.Item{d("/", 1), f("/a/x", 2, "")}, false},
		{[]api.Item{d("/", 1), f("/a/x", 2, ""), d("/a", 3)}, false}, // the directory is behind it
		{[]api.Item{d("/", 1), f("/a", 2, ""), f("/a/x", 3, "")}, false},
		{[]api.Item{d("/", 1), {Path: "/a", Kind: 7}, f("/a/x", 3, "")}, false},
		{[]api.Item{d("/", 1), {Path: "/a"}, f("/a/x", 3, "")}, false},
		{[]api.Item{d("/", 1), d("/a", 2), f("/a/x/y", 3, "")}, false},
		{[]api.Item{d("/", 1), d("/a", 2), f("/A/x", 3, "")}, false},
		{[]api.Item{d("/", 1), d("/a", 2), f("/ab/x", 3, "")}, false},
		{[]api.Item{d("/", 1), d("/ab", 2), f("/a/x", 3, "")}, false},
		{[]api.Item{d("/", 1), d("/a/", 2)}, false},
		{[]api.Item{d("/", 1), d("/a", 2), d("/a//", 3)}, false},
		{[]api.Item{d("/", 1), d("a", 2)}, false}, // nothing is ahead of a last slash, where there is none
		{[]api.Item{d("/", 1), f("", 2, "")}, false},
		{[]api.Item{d("/", 1), d("/a", 2), f("a/x", 3, "")}, false},
		{[]api.Item{d("/", 1), f("x/a", 2, "")}, false},
		{[]api.Item{d("/", 1), {Path: "/a", Kind: 1, Size: 1}}, false},
		{[]api.Item{d("/", 1), {Path: "/a", Kind: 1, Size: -1}}, false},
		{[]api.Item{d("/", 1), {Path: "/a", Kind: 1, Size: 1, Data: []byte("ab")}}, false},
		{[]api.Item{d("/", 1), {Path: "/a", Kind: 1, Size: 3, Data: []byte("ab")}}, false},
		{[]api.Item{d("/", 1), {Path: "/a", Kind: 1, Size: 0, Data: []byte("a")}}, false},
		{[]api.Item{d("/", 1), {Path: "/a", Kind: 1, Size: least, Data: []byte("a")}}, false},
		{[]api.Item{d("/", 1), {Path: "/a", Kind: 1, Size: greatest}}, false},
		{[]api.Item{d("/", 1), f("/a", 2, "x"), f("/b", 3, "y"), {Path: "/c", Kind: 1, Size: 1}}, false}, // the last one, too
	} {
		if got := Right(c.l); got != c.want || plainRight(c.l) != c.want {
			t.Error(i, got)
		}
	}
}

// All lists of up to three items of few paths and kinds, and drawn ones of more.
func TestRightByTheWords(t *testing.T) {
	var each []api.Item
	for _, path := range []string{"/", "/a", "/a/b", "/b", "//", "/a/", "a", "a/b", ""} {
		for kind := range 4 {
			each = append(each, api.Item{Path: path, Kind: kind})
		}
	}
	for _, x := range each {
		for _, y := range each {
			for _, z := range each {
				l := []api.Item{x, y, z}
				for many := range 4 {
					if got, want := Right(l[:many]), plainRight(l[:many]); got != want {
						t.Fatal(l[:many], got)
					}
				}
			}
		}
	}
	next := draw(9)
	right := 0
	for range 20000 {
		l := []api.Item{d("/", 1)}
		for range next(8) {
			x := each[next(len(each))]
			if next(2) == 0 {
				x.Path = l[next(len(l))].Path + "/" + string(rune('a'+next(3)))
			}
			x.Path = strings.Replace(x.Path, "//", "/", next(2))
			x.Kind = 1 + (next(9)+2)/4
			if x.Kind == 1 {
				x.Data = make([]byte, next(3))
				x.Size = len(x.Data) - next(20)/19
			}
			l = append(l, x)
		}
		want := plainRight(l)
		if got := Right(l); got != want {
			t.Fatal(l, got)
		}
		if want && len(l) > 3 {
			right++
		}
	}
	if right < 300 {
		t.Error("too few of them are right to tell:", right)
	}
}

// Long rows of one directory in the other, and many names of one.
func TestRightOfManyItems(t *testing.T) {
	deep, wide := []api.Item{d("/", 1)}, []api.Item{d("/", 1)}
	for i := range 3000 {
		deep = append(deep, d(strings.Repeat("/x", i+1), 2))
		wide = append(wide, f("/"+strings.Repeat("y", i+1), 2, "z"))
	}
	if !Right(deep) || !Right(wide) {
		t.Error("right")
	}
	deep[1000].Kind = 1
	wide[2000].Path = wide[500].Path
	if Right(deep) || Right(wide) {
		t.Error("not right")
	}
}

// Rules that hold everywhere: P2.

func TestFindsAnswerIsItsOwn(t *testing.T) {
	l := listed()
	l[2].Data = append(make([]byte, 0, 100), "one is more"...)[:3]
	path := strings.Clone("/a/x")
	got, _ := Find(l, path)
	if unsafe.StringData(got.Path) == unsafe.StringData(path) || unsafe.StringData(got.Path) == unsafe.StringData(l[2].Path) {
		t.Error("the path is shared")
	}
	all := got.Data[:cap(got.Data)]
	for i := range all {
		if i >= 3 && all[i] != 0 {
			t.Error("what is behind the Data is handed out")
		}
		all[i] = 0xee
	}
	if !sameLists(l, listed()) || string(l[2].Data[:11]) != "one is more" {
		t.Error("the Data is shared", l)
	}
	again, _ := Find(l, path)
	if string(again.Data) != "one" {
		t.Error(again)
	}
}

// What lies behind a length isn't looked at, and nothing that is given is changed.
func TestArgumentsStayAsTheyAre(t *testing.T) {
	more := func(l []api.Item) []api.Item {
		l = append(l, d("/", 1), f("/none", 9, "x"), api.Item{Size: 5})
		for i, x := range l {
			l[i].Data = append(bytes.Clone(x.Data), 1, 2, 3)[:len(x.Data)]
		}
		return l
	}
	a, b := more(listed()), more(listed())
	b[6], b[7], b[8] = b[8], b[6], b[7]
	b[2].Data[:6][5] = 9
	wasA, wasB := clones(a), clones(b)
	if !Same(a[:6], b[:6]) || !Alike(a[:6], b[:6]) || !Right(a[:6]) || !Right(b[:6]) || Size(a[:6]) != 6 || Size(b[:6]) != 6 {
		t.Error("what is behind counts")
	}
	if x, is := Find(a[:6], "/none"); is {
		t.Error(x)
	}
	if !sameLists(a, wasA) || !sameLists(b, wasB) || !slices.Equal(b[2].Data[:6], []byte("one\x01\x02\x09")) {
		t.Error("changed")
	}
}
