package tree

import (
	"bytes"
	"reflect"
	"slices"
	"strconv"
	"strings"
	"testing"

	"sump/api"
	"sump/state"
	"sump/store"
	"sump/view"
)

// P23.1

// someTree has names that stand in another order than their paths, a file of holes and pages with noise behind its Size, which has two names, empty files and directories, and an orphan.
func someTree() []api.Effect {
	return []api.Effect{
		makes(1, "b", 2, dir), makes(1, "a.b", 3, file), makes(1, "a", 4, dir), makes(4, "z", 5, file), makes(4, "y", 6, dir), makes(6, "f", 7, file),
		writes(3, 0, 256), writes(3, 3, 900), writes(5, 0, 10), links(6, "again", 3), makes(1, "o", 8, file), writes(8, 0, 100), unlinks(1, "o", 8),
		makes(1, "B", 9, dir), makes(1, "\xff", 10, file), truncs(10, 300),
	}
}

// someItems is what someTree comes to, written out.
func someItems() []api.Item {
	long := make([]byte, 900)
	copy(long, noise(3*100000+256, 256))
	copy(long[768:], noise(3*100000+3*20000+900, 256))
	return []api.Item{
		{Path: "/", Ino: 1, Kind: 2},
		{Path: "/B", Ino: 9, Kind: 2},
		{Path: "/a", Ino: 4, Kind: 2},
		{Path: "/a/y", Ino: 6, Kind: 2},
		{Path: "/a/y/again", Ino: 3, Kind: 1, Size: 900, Data: bytes.Clone(long)},
		{Path: "/a/y/f", Ino: 7, Kind: 1},
		{Path: "/a/z", Ino: 5, Kind: 1, Size: 10, Data: noise(5*100000+10, 256)[:10]},
		{Path: "/a.b", Ino: 3, Kind: 1, Size: 900, Data: bytes.Clone(long)},
		{Path: "/b", Ino: 2, Kind: 2},
		{Path: "/\xff", Ino: 10, Kind: 1, Size: 300, Data: make([]byte, 300)},
	}
}

// expect holds a view against all effects that were added, of which so many stay, and what it is listed as against P23.3.
func expect(t *testing.T, v *view.View, l []api.Effect, gone int) {
	t.Helper()
	if got, want := Of(v), itemsOf(t, l); !sameLists(got, want) || !Right(got) {
		t.Fatal("of", got, "must be", want)
	}
	if got, want := Stays(v.Store()), itemsOf(t, l[:gone]); !sameLists(got, want) || !Right(got) {
		t.Fatal("stays", got, "must be", want)
	}
}

// look is all that a listing could change, were it to change anything.
type look struct {
	Seen, Stays             []api.Node
	Pending                 []api.Effect
	Gone, Next, Dirty, Free int
}

func nodes(s *state.State) []api.Node {
	var l []api.Node
	for _, n := range s.Nodes() {
		l = append(l, n)
	}
	return l
}

func lookAt(v *view.View) look {
	return look{nodes(v.State()), nodes(v.Store().State()), v.Pending(), v.Gone(), v.Next(), v.Dirty(), v.Store().Free()}
}

// The chapter's example.
func TestOfANewTree(t *testing.T) {
	v, _ := fresh(t, 64)
	want := []api.Item{{Path: "/", Ino: 1, Kind: 2}}
	if got := Of(v); !sameLists(got, want) {
		t.Error(got)
	}
	if got := Stays(v.Store()); !sameLists(got, want) {
		t.Error(got)
	}
}

func TestOfATree(t *testing.T) {
	for gone := range len(someTree()) + 1 {
		v, d := fresh(t, 256)
		adds(t, v, someTree()...)
		pushes(t, v, gone)
		was, events := lookAt(v), d.Events()
		for range 2 {
			if got := Of(v); !sameLists(got, someItems()) {
				t.Fatal(gone, got)
			}
		}
		if got := Stays(v.Store()); !sameLists(got, itemsOf(t, someTree()[:gone])) {
			t.Fatal(gone, got)
		}
		if !reflect.DeepEqual(lookAt(v), was) || d.Events() != events {
			t.Error(gone, "something has changed")
		}
	}
}

// What is added is seen at once, and stays when it is pushed, each effect by itself.
func TestOneByOne(t *testing.T) {
	v, d := fresh(t, 256)
	l := append(someTree(),
		renames(4, "y", 2, "yy", 6), truncs(3, 100), writes(3, 1, 400), renames(4, "z", 1, "a.b", 5), renames(1, "a", 2, "a", 4), rmdirs(1, "B", 9),
		drops(8), links(4, "\xff", 10), unlinks(1, "\xff", 10), unlinks(6, "again", 3), drops(3), renames(1, "a.b", 4, "\xff", 5), makes(4, "last", 11, dir))
	for i, e := range l {
		adds(t, v, e)
		expect(t, v, l[:i+1], 0)
	}
	for i := range l {
		pushes(t, v, 1)
		expect(t, v, l, i+1)
	}
	if again := Stays(mounted(t, d)); !sameLists(again, itemsOf(t, l)) {
		t.Error(again)
	}
}

func paths(l []api.Item) []string {
	var all []string
	for _, x := range l {
		all = append(all, x.Path)
	}
	return all
}

// Names are in order byte by byte, and what a directory has is between it and the next name, whatever that begins with.
func TestOrder(t *testing.T) {
	v, _ := fresh(t, 256)
	for i, s := range []string{"b", "a0", "é", "a", "a.", "\xff", "a-b", "A", "\x01", "a\x01", "~", "ab"} {
		adds(t, v, makes(1, s, 2+2*i, dir), makes(2+2*i, "x", 3+2*i, file))
	}
	want := []string{"/"}
	for _, s := range []string{"\x01", "A", "a", "a\x01", "a-b", "a.", "a0", "ab", "b", "~", "é", "\xff"} {
		want = append(want, "/"+s, "/"+s+"/x")
	}
	if got := paths(Of(v)); !slices.Equal(got, want) {
		t.Errorf("%q", got)
	}
}

// Paths may be longer than those that a call may have, since each name is made by itself.
func TestDeep(t *testing.T) {
	v, _ := fresh(t, 4096)
	var l []api.Effect
	want := []api.Item{{Path: "/", Ino: 1, Kind: 2}}
	path := ""
	for i := range 300 {
		s := strings.Repeat("x", 1+i%24)
		l = append(l, makes(1+i, s, 2+i, dir))
		path += "/" + s
		want = append(want, api.Item{Path: path, Ino: 2 + i, Kind: 2})
	}
	l = append(l, makes(301, "f", 302, file), writes(302, 0, 5))
	want = append(want, api.Item{Path: path + "/f", Ino: 302, Kind: 1, Size: 5, Data: noise(302*100000+5, 256)[:5]})
	adds(t, v, l...)
	if got := Of(v); !sameLists(got, want) || !Right(got) {
		t.Error(got)
	}
}

func TestWide(t *testing.T) {
	v, _ := fresh(t, 4096)
	var l []api.Effect
	want := []string{"/"}
	for i := range 400 {
		s := strconv.Itoa(i * 7 % 400)
		l = append(l, makes(1, s, 2+i, file+i%2))
		want = append(want, "/"+s)
	}
	slices.Sort(want)
	adds(t, v, l...)
	if got := Of(v); !slices.Equal(paths(got), want) || !Right(got) {
		t.Errorf("%q", paths(got))
	}
	expect(t, v, l, 0)
}

// Sixteen names are the most of one file, and 64 pages: each name has all bytes.
func TestTheGreatestFileByAllItsNames(t *testing.T) {
	v, _ := fresh(t, 1024)
	l := []api.Effect{makes(1, "00", 2, file)}
	for i := range 64 {
		l = append(l, writes(2, i, 256*(i+1)))
	}
	for i := 1; i < 16; i++ {
		l = append(l, makes(1, "d"+strconv.Itoa(i), 2+i, dir), links(2+i, strconv.Itoa(i), 2))
	}
	adds(t, v, l...)
	got := Of(v)
	if len(got) != 32 || got[1].Size != 16384 || Size(got) != 16*16384 {
		t.Error(len(got), Size(got))
	}
	expect(t, v, l, 0)
	pushes(t, v, len(l))
	expect(t, v, l, len(l))
}

// What is behind the Size was there ahead of a cut, and isn't listed, nor seen again.
func TestBytesUpToTheSize(t *testing.T) {
	v, _ := fresh(t, 256)
	l := []api.Effect{makes(1, "f", 2, file), writes(2, 0, 200), writes(2, 1, 512)}
	for _, size := range []int{511, 300, 257, 256, 255, 1, 0} {
		l = append(l, truncs(2, size))
	}
	for i, e := range l {
		adds(t, v, e)
		got, is := Find(Of(v), "/f")
		if !is || got.Size != len(got.Data) || i > 2 && got.Size != e.Size {
			t.Error(i, got)
		}
		expect(t, v, l[:i+1], 0)
	}
}

// What can't be read is left out, as a whole and by each of its names: files with a page of data on a device without power. All else is in the cache, or has no bytes.
func TestWhatCantBeReadIsLeftOut(t *testing.T) {
	for gone := range len(someTree()) + 1 {
		v, d := fresh(t, 256)
		adds(t, v, someTree()...)
		pushes(t, v, gone)
		stays := Stays(v.Store())
		dead(t, d)
		if got, want := Of(v), without(someItems(), laid(v.State())); !sameLists(got, want) || !Right(got) {
			t.Error(gone, "of", got, "must be", want)
		}
		if got, want := Stays(v.Store()), without(stays, laid(v.Store().State())); !sameLists(got, want) || !Right(got) {
			t.Error(gone, "stays", got, "must be", want)
		}
		d.Crash(nil)
		if got := Of(v); !sameLists(got, someItems()) {
			t.Error(gone, "with power", got)
		}
	}
	if all := []int{3, 5}; !slices.Equal(paths(without(someItems(), all)), []string{"/", "/B", "/a", "/a/y", "/a/y/f", "/b", "/\xff"}) {
		t.Error(all)
	}
}

// laid are the files that have a page of data.
func laid(s *state.State) []int {
	var l []int
	for ino, n := range s.Nodes() {
		for _, ref := range n.Pages {
			if ref > 0 {
				l = append(l, ino)
			}
		}
	}
	return l
}

func without(l []api.Item, numbers []int) []api.Item {
	return slices.DeleteFunc(clones(l), func(x api.Item) bool { return slices.Contains(numbers, x.Ino) })
}

// A file of which just one page can't be read is left out, too.
func TestOnePageThatCantBeRead(t *testing.T) {
	for page := range 3 {
		v, d := fresh(t, 256)
		adds(t, v, makes(1, "f", 2, file), writes(2, page, 768), makes(1, "g", 3, file))
		pushes(t, v, 2)
		for i := range 3 {
			if i != page {
				adds(t, v, writes(2, i, 768))
			}
		}
		dead(t, d)
		if got := paths(Of(v)); !slices.Equal(got, []string{"/", "/g"}) {
			t.Error(page, got)
		}
		adds(t, v, writes(2, page, 768))
		if got := paths(Of(v)); !slices.Equal(got, []string{"/", "/f", "/g"}) {
			t.Error(page, "written over", got)
		}
	}
}

// Behind a crash there is what stayed, less what was listed nowhere.
func TestStaysBehindACrash(t *testing.T) {
	for gone := range len(someTree()) + 1 {
		v, d := fresh(t, 256)
		adds(t, v, someTree()...)
		pushes(t, v, gone)
		d.Crash(nil)
		if got, want := Stays(mounted(t, d)), itemsOf(t, someTree()[:gone]); !sameLists(got, want) {
			t.Error(gone, got, "must be", want)
		}
	}
}

func TestOfNone(t *testing.T) {
	if l := Of(nil); len(l) != 0 {
		t.Error(l)
	}
	if l := Of(&view.View{}); len(l) != 0 {
		t.Error(l)
	}
	if l := Stays(nil); len(l) != 0 {
		t.Error(l)
	}
	if l := Stays(&store.Store{}); len(l) != 0 {
		t.Error(l)
	}
}

// drawEffect is any effect, of nodes and names most of which are there.
func drawEffect(next func(below int) int, s *state.State) api.Effect {
	names := []string{"a", "a.", "a b", "A", "b", "\x01", "\xff", "é", strings.Repeat("x", 24)}
	node := func() int { return 1 + next(s.Last()) }
	in := node()
	n, _ := s.Get(in)
	was := api.Entry{Name: "none", Ino: 2}
	if len(n.Names) > 0 {
		was = n.Names[next(len(n.Names))]
	}
	switch next(9) {
	case 0, 1:
		return makes(in, names[next(len(names))], s.Last()+1, file+next(2))
	case 2:
		return links(in, names[next(len(names))], node())
	case 3:
		return unlinks(in, was.Name, was.Ino)
	case 4:
		return rmdirs(in, was.Name, was.Ino)
	case 5:
		return renames(in, was.Name, node(), names[next(len(names))], was.Ino)
	case 6:
		return truncs(node(), next(1500))
	case 7:
		return drops(node())
	}
	ino := node()
	n, _ = s.Get(ino)
	size := max(n.Size, 1+next(1500))
	return writes(ino, next((size+255)/256), size)
}

// P23.3, and P23.1 with it: any effects that can happen, and any Pushes between them.
func TestDrawn(t *testing.T) {
	most := 0
	for seed := range uint64(40) {
		next := draw(seed + 1)
		v, _ := fresh(t, 256)
		var l []api.Effect
		for range 150 {
			if next(4) == 0 {
				if _, err := v.Push(); err != 0 {
					t.Fatal(err)
				}
			}
			e := drawEffect(next, v.State())
			if v.Add([]api.Effect{e}) == 0 {
				l = append(l, e)
			}
			if next(5) == 0 {
				expect(t, v, l, v.Gone())
				most = max(most, len(Of(v)))
			}
		}
		expect(t, v, l, v.Gone())
	}
	if most < 20 {
		t.Error("the trees are too small to tell:", most)
	}
}

// Rules that hold everywhere: P2. What is written over all that was told is seen nowhere else.
func TestListsAreTheirOwn(t *testing.T) {
	for _, gone := range []int{0, 8, 16} {
		v, _ := fresh(t, 256)
		adds(t, v, someTree()...)
		pushes(t, v, gone)
		kept := Of(v)
		for i, x := range Of(v) {
			spoiled := Of(v)
			all := x.Data[:cap(x.Data)]
			for k := range all {
				if k >= len(x.Data) && all[k] != 0 {
					t.Error(gone, i, "something behind the Data")
				}
			}
			all = spoiled[i].Data[:cap(spoiled[i].Data)]
			for k := range all {
				all[k] = 0xee
			}
			spoiled[i] = someItems()[i]
			if !sameLists(spoiled, someItems()) || !sameLists(kept, someItems()) || !sameLists(Of(v), someItems()) {
				t.Error(gone, i, "shared")
			}
		}
	}
}

// What was told stays as it was when the tree changes.
func TestListsStay(t *testing.T) {
	v, _ := fresh(t, 256)
	adds(t, v, someTree()...)
	pushes(t, v, len(someTree()))
	seen, stays := Of(v), Stays(v.Store())
	adds(t, v, writes(3, 0, 900), writes(5, 0, 20), renames(1, "a", 2, "a", 4), truncs(10, 1))
	pushes(t, v, 4)
	if !sameLists(seen, someItems()) || !sameLists(stays, someItems()) {
		t.Error(seen, stays)
	}
}
