package inode

import (
	"slices"
	"strings"
	"sync"
	"testing"
	"unsafe"

	"sump/api"
	"sump/words"
)

// The numbers of the document, written out, so that no constant of the program is held against itself.
const (
	greatest  = int(^uint(0) >> 1)
	least     = -greatest - 1
	pageBytes = 256
	mostPages = 64
	mostSize  = 16384
	mostLinks = 16
	mostIno   = 1048576
)

// draw is a row of numbers that is the same each time.
func draw(seed uint64) func(below int) int {
	x := seed*2862933555777941757 + 88172645463325252
	return func(below int) int {
		x ^= x << 13
		x ^= x >> 7
		x ^= x << 17
		return int(x >> 20 % uint64(below))
	}
}

// edges are numbers at which something that a node may have begins or ends.
func edges() []int {
	return []int{
		least, least + 1, -mostSize, -257, -256, -255, -2, -1, 0, 1, 2, 3,
		mostLinks - 1, mostLinks, mostLinks + 1, mostPages - 1, mostPages, mostPages + 1,
		255, 256, 257, 511, 512, 513, mostSize - 257, mostSize - 256, mostSize - 255, mostSize - 1, mostSize, mostSize + 1, mostSize + 256,
		mostIno - 1, mostIno, mostIno + 1, greatest - 256, greatest - 255, greatest - 254, greatest - 1, greatest,
	}
}

// plainNeed counts pages till they have room for all bytes.
func plainNeed(size int) int {
	pages := 0
	for room := 0; room < size; room += pageBytes {
		pages++
	}
	return pages
}

func sizeMayBe(size int) bool { return size >= 0 && size <= mostSize }

// plainRight is P14.1, word by word.
func plainRight(n api.Node) bool {
	if n.Ino < 1 || n.Ino > mostIno {
		return false
	}
	if n.Links < 0 || n.Links > mostLinks {
		return false
	}
	if n.Kind == 1 {
		return n.Up == 0 && len(n.Names) == 0 && sizeMayBe(n.Size) && len(n.Pages) == plainNeed(n.Size)
	}
	if n.Kind == 2 {
		up := n.Up >= 1 && n.Up <= mostIno
		if n.Ino == 1 {
			up = n.Up == 1
		}
		return n.Size == 0 && len(n.Pages) == 0 && up && n.Links == 1
	}
	return false
}

// plainAt is a page by its place; what is missing is 0.
func plainAt(pages []int, i int) int {
	if i < len(pages) {
		return pages[i]
	}
	return 0
}

func plainRefs(pages []int) []int {
	out := []int{}
	for _, ref := range pages {
		if ref != 0 {
			out = append(out, ref)
		}
	}
	return out
}

// plainResize is P14.2, place by place.
func plainResize(n api.Node, size int) (api.Node, []int) {
	if !sizeMayBe(size) {
		return n, nil
	}
	pages := []int{}
	for i := range plainNeed(size) {
		pages = append(pages, plainAt(n.Pages, i))
	}
	cut := []int{}
	for i := len(pages); i < len(n.Pages); i++ {
		cut = append(cut, n.Pages[i])
	}
	n.Size, n.Pages = size, pages
	return n, plainRefs(cut)
}

func plainPut(n api.Node, i, ref, size int) (api.Node, int) {
	if size < 1 || size > mostSize || i < 0 || i >= plainNeed(size) {
		return n, 0
	}
	stood := plainAt(n.Pages, i)
	n, _ = plainResize(n, size)
	n.Pages[i] = ref
	return n, stood
}

// plainWords counts what a picture has of the node, number by number.
func plainWords(n api.Node) int {
	var w words.Writer
	for _, x := range []int{n.Ino, n.Kind, n.Links, n.Size, n.Up, len(n.Pages), len(n.Names)} {
		w.Num(x)
	}
	for _, ref := range n.Pages {
		w.Num(ref)
	}
	for _, e := range n.Names {
		w.Text(e.Name)
		w.Num(e.Ino)
	}
	return len(w.Words())
}

// plainSame goes field by field.
func plainSame(a, b api.Node) bool {
	if a.Ino != b.Ino || a.Kind != b.Kind || a.Links != b.Links || a.Size != b.Size || a.Up != b.Up {
		return false
	}
	if len(a.Pages) != len(b.Pages) || len(a.Names) != len(b.Names) {
		return false
	}
	for i := range a.Pages {
		if a.Pages[i] != b.Pages[i] {
			return false
		}
	}
	for i := range a.Names {
		if a.Names[i].Name != b.Names[i].Name || a.Names[i].Ino != b.Names[i].Ino {
			return false
		}
	}
	return true
}

// file is a Right one of that size with refs from 1 on.
func file(size int) api.Node {
	n := api.Node{Ino: 7, Kind: api.File, Links: 2, Size: size}
	for i := range plainNeed(size) {
		n.Pages = append(n.Pages, i+1)
	}
	return n
}

func dir(names ...string) api.Node {
	n := api.Node{Ino: 5, Kind: api.Dir, Links: 1, Up: 3}
	for i, s := range names {
		n.Names = append(n.Names, api.Entry{Name: s, Ino: 10 + i})
	}
	return n
}

// drawn is any node, Right or not.
func drawn(next func(int) int) api.Node {
	n := api.Node{Ino: next(4), Kind: next(4), Links: next(3), Size: next(1100) - 5, Up: next(3)}
	many := plainNeed(n.Size)
	if next(4) == 0 {
		many = next(8)
	}
	for range many {
		n.Pages = append(n.Pages, max(next(9)-3, 0)-next(2)*next(2))
	}
	for range next(4) * next(2) {
		n.Names = append(n.Names, api.Entry{Name: strings.Repeat("a", next(26)), Ino: next(4)})
	}
	return n
}

// several are nodes of all kinds, also such as can't be.
func several() []api.Node {
	odd := dir("a", "b")
	odd.Pages, odd.Size, odd.Links = []int{4, 0, -6}, 900, 30
	return []api.Node{
		{},
		New(2, api.File, 0),
		New(api.Root, api.Dir, api.Root),
		file(1),
		file(700),
		file(mostSize),
		dir("a", "bb", "ccccccccc"),
		odd,
		{Ino: least, Kind: greatest, Links: least, Size: greatest, Up: least, Pages: []int{least, 0, greatest}, Names: []api.Entry{{Name: "", Ino: least}}},
		{Ino: 9, Kind: api.File, Links: 1, Size: 3, Pages: make([]int, 200)},
		{Ino: 9, Kind: api.File, Links: 1, Size: mostSize, Pages: []int{8}},
	}
}

// P14.1: New.

func TestNew(t *testing.T) {
	for _, c := range []struct {
		ino, kind, up int
		want          api.Node
	}{
		{2, api.File, 5, api.Node{Ino: 2, Kind: 1, Links: 1}},
		{2, api.File, 0, api.Node{Ino: 2, Kind: 1, Links: 1}},
		{2, api.Dir, 5, api.Node{Ino: 2, Kind: 2, Links: 1, Up: 5}},
		{1, api.Dir, 1, api.Node{Ino: 1, Kind: 2, Links: 1, Up: 1}},
		{4, api.Dir, 0, api.Node{Ino: 4, Kind: 2, Links: 1}},
		{mostIno, api.Dir, mostIno, api.Node{Ino: mostIno, Kind: 2, Links: 1, Up: mostIno}},
		{3, 0, 4, api.Node{Ino: 3, Links: 1}},
		{3, 3, 4, api.Node{Ino: 3, Kind: 3, Links: 1}},
		{3, -2, 4, api.Node{Ino: 3, Kind: -2, Links: 1}},
		{least, api.Dir, greatest, api.Node{Ino: least, Kind: 2, Links: 1, Up: greatest}},
		{greatest, api.Dir, least, api.Node{Ino: greatest, Kind: 2, Links: 1, Up: least}},
		{-1, greatest, 2, api.Node{Ino: -1, Kind: greatest, Links: 1}},
		{0, least, 2, api.Node{Kind: least, Links: 1}},
	} {
		if n := New(c.ino, c.kind, c.up); !plainSame(n, c.want) {
			t.Error(c.ino, c.kind, c.up, n)
		}
	}
}

func TestNewIsRightJustIfItsNumbersAre(t *testing.T) {
	for _, ino := range edges() {
		for _, up := range edges() {
			inoMay, upMay := ino >= 1 && ino <= mostIno, up >= 1 && up <= mostIno
			if Right(New(ino, api.File, up)) != inoMay {
				t.Error("file", ino, up)
			}
			if Right(New(ino, api.Dir, up)) != (inoMay && upMay && (ino != 1 || up == 1)) {
				t.Error("dir", ino, up)
			}
			if Right(New(ino, 0, up)) || Right(New(ino, 3, up)) {
				t.Error("no kind", ino, up)
			}
		}
	}
}

// P14.1: Need.

func TestNeed(t *testing.T) {
	for _, c := range []struct{ size, want int }{
		{least, 0}, {least + 1, 0}, {-257, 0}, {-256, 0}, {-1, 0}, {0, 0},
		{1, 1}, {2, 1}, {255, 1}, {256, 1}, {257, 2}, {512, 2}, {513, 3},
		{16128, 63}, {16129, 64}, {16384, 64}, {16385, 65}, {1 << 31, 1 << 23}, {1<<31 + 1, 1<<23 + 1},
		{greatest - 256, 1<<55 - 1}, {greatest - 255, 1<<55 - 1}, {greatest - 254, 1 << 55}, {greatest, 1 << 55},
	} {
		if got := Need(c.size); got != c.want {
			t.Error(c.size, got)
		}
	}
}

func TestNeedOfEachSize(t *testing.T) {
	for size := -600; size <= mostSize+600; size++ {
		if Need(size) != plainNeed(size) {
			t.Fatal(size, Need(size))
		}
	}
}

// P14.1: Right.

func TestRight(t *testing.T) {
	for _, n := range []api.Node{
		{Ino: 1, Kind: 1},
		{Ino: 2, Kind: 1, Links: 1},
		{Ino: mostIno, Kind: 1, Links: mostLinks},
		{Ino: 2, Kind: 1, Links: 1, Size: 1, Pages: []int{0}},
		{Ino: 2, Kind: 1, Links: 1, Size: 256, Pages: []int{9}},
		{Ino: 2, Kind: 1, Links: 1, Size: 257, Pages: []int{9, 9}},
		{Ino: 2, Kind: 1, Links: 1, Size: 257, Pages: []int{-9, least}},
		file(mostSize - 256),
		file(mostSize),
		{Ino: 2, Kind: 1, Pages: []int{}, Names: []api.Entry{}},
		{Ino: 1, Kind: 2, Links: 1, Up: 1},
		{Ino: 2, Kind: 2, Links: 1, Up: 1},
		{Ino: 2, Kind: 2, Links: 1, Up: 2},
		{Ino: mostIno, Kind: 2, Links: 1, Up: mostIno, Pages: []int{}},
		dir("b", "a", "a", "", "no/name"),
	} {
		if !Right(n) || !plainRight(n) {
			t.Error(n)
		}
	}
}

func TestNotRight(t *testing.T) {
	for _, n := range []api.Node{
		{},
		{Ino: 0, Kind: 1, Links: 1},
		{Ino: -1, Kind: 1, Links: 1},
		{Ino: mostIno + 1, Kind: 1, Links: 1},
		{Ino: 2, Kind: 1, Links: -1},
		{Ino: 2, Kind: 1, Links: mostLinks + 1},
		{Ino: 2, Kind: 0, Links: 1},
		{Ino: 2, Kind: 3, Links: 1},
		{Ino: 2, Kind: -1, Links: 1, Up: 1},
		{Ino: 2, Kind: 1, Links: 1, Up: 1},
		{Ino: 2, Kind: 1, Links: 1, Up: -1},
		{Ino: 2, Kind: 1, Links: 1, Names: []api.Entry{{Name: "a", Ino: 3}}},
		{Ino: 2, Kind: 1, Links: 1, Names: []api.Entry{{}}},
		{Ino: 2, Kind: 1, Links: 1, Size: -1},
		{Ino: 2, Kind: 1, Links: 1, Size: 1},
		{Ino: 2, Kind: 1, Links: 1, Size: 257, Pages: []int{1}},
		{Ino: 2, Kind: 1, Links: 1, Size: 256, Pages: []int{1, 2}},
		{Ino: 2, Kind: 1, Links: 1, Pages: []int{0}},
		file(mostSize + 1),
		{Ino: 2, Kind: 1, Links: 1, Size: mostSize + 1, Pages: make([]int, mostPages)},
		{Ino: 2, Kind: 1, Links: 1, Size: greatest, Pages: make([]int, mostPages)},
		{Ino: 1, Kind: 2, Links: 1, Up: 0},
		{Ino: 1, Kind: 2, Links: 1, Up: 2},
		{Ino: 2, Kind: 2, Links: 1, Up: 0},
		{Ino: 2, Kind: 2, Links: 1, Up: mostIno + 1},
		{Ino: 2, Kind: 2, Links: 0, Up: 1},
		{Ino: 2, Kind: 2, Links: 2, Up: 1},
		{Ino: 2, Kind: 2, Links: 1, Up: 1, Size: 1},
		{Ino: 2, Kind: 2, Links: 1, Up: 1, Size: 1, Pages: []int{0}},
		{Ino: 2, Kind: 2, Links: 1, Up: 1, Pages: []int{0}},
		{Ino: 0, Kind: 2, Links: 1, Up: 1},
	} {
		if Right(n) || plainRight(n) {
			t.Error(n)
		}
	}
}

func TestRightOfEachFieldAtAllEdges(t *testing.T) {
	root := New(api.Root, api.Dir, api.Root)
	for _, whole := range []api.Node{file(0), file(1), file(256), file(257), file(mostSize), file(mostSize + 1), root, dir(), dir("a")} {
		for _, x := range edges() {
			for field := range 5 {
				n := whole
				*[]*int{&n.Ino, &n.Kind, &n.Links, &n.Size, &n.Up}[field] = x
				if Right(n) != plainRight(n) {
					t.Error(whole, field, x, Right(n))
				}
			}
		}
	}
}

func TestRightOfSizesAndPages(t *testing.T) {
	for size := -2; size <= mostSize+2; size++ {
		need := plainNeed(size)
		for many := max(need-1, 0); many <= need+1; many++ {
			n := api.Node{Ino: 3, Kind: api.File, Size: size, Pages: make([]int, many)}
			if Right(n) != plainRight(n) {
				t.Fatal(size, many, Right(n))
			}
		}
	}
}

func TestRightOfDrawnNodes(t *testing.T) {
	right := 0
	for seed := range uint64(20000) {
		n := drawn(draw(seed))
		if Right(n) != plainRight(n) {
			t.Fatal(n, Right(n))
		}
		if Right(n) {
			right++
		}
	}
	if right < 100 || right > 19900 {
		t.Error("too few of one kind are drawn:", right)
	}
}

// P14.2: Resize.

func TestResize(t *testing.T) {
	whole := api.Node{Ino: 4, Kind: api.File, Links: 1, Size: 1000, Pages: []int{5, 0, 6, 7}}
	for _, c := range []struct {
		size       int
		pages, cut []int
	}{
		{0, nil, []int{5, 6, 7}},
		{1, []int{5}, []int{6, 7}},
		{256, []int{5}, []int{6, 7}},
		{257, []int{5, 0}, []int{6, 7}},
		{512, []int{5, 0}, []int{6, 7}},
		{513, []int{5, 0, 6}, []int{7}},
		{768, []int{5, 0, 6}, []int{7}},
		{769, []int{5, 0, 6, 7}, nil},
		{1000, []int{5, 0, 6, 7}, nil},
		{1024, []int{5, 0, 6, 7}, nil},
		{1025, []int{5, 0, 6, 7, 0}, nil},
		{1500, []int{5, 0, 6, 7, 0, 0}, nil},
		{mostSize, append([]int{5, 0, 6, 7}, make([]int, 60)...), nil},
	} {
		n, cut := Resize(whole, c.size)
		want := api.Node{Ino: 4, Kind: api.File, Links: 1, Size: c.size, Pages: c.pages}
		if !plainSame(n, want) || !slices.Equal(cut, c.cut) || !Right(n) {
			t.Error(c.size, n, cut)
		}
	}
}

func TestResizeToSizesThatMayNotBe(t *testing.T) {
	for _, n := range several() {
		for _, size := range []int{least, least + 1, -256, -1, mostSize + 1, mostSize + 256, mostIno, greatest} {
			if got, cut := Resize(n, size); !plainSame(got, n) || len(cut) != 0 {
				t.Error(n, size, got, cut)
			}
		}
	}
}

func TestResizeTellsWhatIsCutInOrder(t *testing.T) {
	n := api.Node{Kind: api.File, Size: 3000, Pages: []int{9, 8, 8, 0, -3, 1, 0, 8, greatest, least, 0, 2}}
	got, cut := Resize(n, 300)
	if !slices.Equal(got.Pages, []int{9, 8}) || !slices.Equal(cut, []int{8, -3, 1, 8, greatest, least, 2}) {
		t.Error(got, cut)
	}
}

func TestResizeOfSeveral(t *testing.T) {
	sizes := append(edges(), 700, 768, 769, 1024, 1025)
	for _, n := range several() {
		for _, size := range sizes {
			got, cut := Resize(n, size)
			want, wantCut := plainResize(n, size)
			if !plainSame(got, want) || !slices.Equal(cut, wantCut) {
				t.Error(n, size, got, cut)
			}
		}
	}
}

func TestResizeOfDrawnNodes(t *testing.T) {
	for seed := range uint64(5000) {
		next := draw(seed)
		n := drawn(next)
		for range 4 {
			size := next(1500) - 10
			got, cut := Resize(n, size)
			want, wantCut := plainResize(n, size)
			if !plainSame(got, want) || !slices.Equal(cut, wantCut) {
				t.Fatal(seed, n, size, got, cut)
			}
			n = got
		}
	}
}

func TestResizeFromAndToEachSizeByPages(t *testing.T) {
	for from := 0; from <= mostSize; from += 127 {
		n := file(from)
		for to := 0; to <= mostSize; to += 131 {
			got, cut := Resize(n, to)
			if !Right(got) || len(cut) != max(plainNeed(from)-plainNeed(to), 0) || len(Refs(got))+len(cut) != plainNeed(from) {
				t.Fatal(from, to, got, cut)
			}
			back, _ := Resize(got, from)
			if !Right(back) || back.Size != from || !slices.Equal(Refs(back), Refs(got)) {
				t.Fatal(from, to, back)
			}
		}
	}
}

// P14.2: Put.

func TestPut(t *testing.T) {
	whole := api.Node{Ino: 4, Kind: api.File, Links: 1, Size: 600, Pages: []int{5, 0, 6}}
	for _, c := range []struct {
		i, ref, size int
		pages        []int
		stood        int
	}{
		{0, 9, 600, []int{9, 0, 6}, 5},
		{1, 9, 600, []int{5, 9, 6}, 0},
		{2, 9, 600, []int{5, 0, 9}, 6},
		{2, 0, 600, []int{5, 0, 0}, 6},
		{2, 6, 600, []int{5, 0, 6}, 6},
		{2, -4, 600, []int{5, 0, -4}, 6},
		{2, 9, 768, []int{5, 0, 9}, 6},
		{2, 9, 769, []int{5, 0, 9, 0}, 6},
		{3, 9, 769, []int{5, 0, 6, 9}, 0},
		{5, 9, 1281, []int{5, 0, 6, 0, 0, 9}, 0},
		{0, 9, 1, []int{9}, 5},
		{0, 9, 256, []int{9}, 5},
		{1, 9, 257, []int{5, 9}, 0},
		{0, greatest, 257, []int{greatest, 0}, 5},
		{63, 9, mostSize, append([]int{5, 0, 6}, append(make([]int, 60), 9)...), 0},
		{63, 9, mostSize - 255, append([]int{5, 0, 6}, append(make([]int, 60), 9)...), 0},
	} {
		n, stood := Put(whole, c.i, c.ref, c.size)
		want := api.Node{Ino: 4, Kind: api.File, Links: 1, Size: c.size, Pages: c.pages}
		if !plainSame(n, want) || stood != c.stood || !Right(n) {
			t.Error(c.i, c.ref, c.size, n, stood)
		}
	}
}

func TestPutWhereItMayNotBe(t *testing.T) {
	for _, c := range []struct{ i, size int }{
		{0, 0}, {0, -1}, {0, least}, {-1, 0}, {1, 0}, {-1, -300},
		{-1, 600}, {least, 600}, {3, 600}, {3, 768}, {4, 769}, {1, 256}, {1, 1}, {2, 257}, {greatest, 600},
		{0, mostSize + 1}, {64, mostSize + 1}, {0, greatest}, {5, greatest}, {63, mostSize + 1},
		{64, mostSize}, {63, mostSize - 256}, {62, mostSize - 512}, {-1, mostSize},
	} {
		for _, n := range append(several(), file(600)) {
			if got, stood := Put(n, c.i, 9, c.size); !plainSame(got, n) || stood != 0 {
				t.Error(n, c.i, c.size, got, stood)
			}
		}
	}
}

func TestPutAtEachPlaceAndSize(t *testing.T) {
	places := append(edges(), 61, 62, 66)
	for _, n := range several() {
		for _, size := range edges() {
			for _, i := range places {
				got, stood := Put(n, i, 77, size)
				want, wantStood := plainPut(n, i, 77, size)
				if !plainSame(got, want) || stood != wantStood {
					t.Error(n, i, size, got, stood)
				}
			}
		}
	}
}

func TestPutIntoDrawnNodes(t *testing.T) {
	for seed := range uint64(5000) {
		next := draw(seed)
		n := drawn(next)
		for range 6 {
			i, ref, size := next(8)-1, next(9)-2, next(1600)-20
			got, stood := Put(n, i, ref, size)
			want, wantStood := plainPut(n, i, ref, size)
			if !plainSame(got, want) || stood != wantStood {
				t.Fatal(seed, n, i, ref, size, got, stood)
			}
			n = got
		}
	}
}

// P14.2: Refs.

func TestRefs(t *testing.T) {
	for _, c := range []struct{ pages, want []int }{
		{nil, nil},
		{[]int{}, nil},
		{[]int{0}, nil},
		{[]int{0, 0, 0}, nil},
		{[]int{4}, []int{4}},
		{[]int{0, 4}, []int{4}},
		{[]int{4, 0}, []int{4}},
		{[]int{4, 0, 3, 0, 0, 5}, []int{4, 3, 5}},
		{[]int{3, 3, 0, 3}, []int{3, 3, 3}},
		{[]int{-1, 0, least, greatest}, []int{-1, least, greatest}},
	} {
		for _, n := range []api.Node{{Pages: c.pages}, {Ino: 2, Kind: 2, Size: 1, Pages: c.pages}} {
			if got := Refs(n); !slices.Equal(got, c.want) {
				t.Error(c.pages, got)
			}
		}
	}
}

func TestRefsOfManyPages(t *testing.T) {
	n := api.Node{Pages: make([]int, 100000)}
	if len(Refs(n)) != 0 {
		t.Error("holes are told")
	}
	for i := range n.Pages {
		n.Pages[i] = i % 3
	}
	if got := Refs(n); !slices.Equal(got, plainRefs(n.Pages)) {
		t.Error(len(got))
	}
}

// P14.2: Words.

func TestWords(t *testing.T) {
	for _, c := range []struct {
		n    api.Node
		want int
	}{
		{api.Node{}, 7},
		{New(1, api.Dir, 1), 7},
		{New(2, api.File, 1), 7},
		{file(1), 8},
		{file(257), 9},
		{api.Node{Pages: []int{0, 0, 0}}, 10},
		{file(mostSize), 71},
		{dir(""), 9},
		{dir("a"), 10},
		{dir("12345678"), 10},
		{dir("123456789"), 11},
		{dir("1234567890123456"), 11},
		{dir("12345678901234567"), 12},
		{dir("123456789012345678901234"), 12},
		{dir("1234567890123456789012345"), 13},
		{dir("a", "bb", "123456789"), 17},
		{dir("\u00e9\u00e9\u00e9\u00e9\u00e9"), 11},
		{api.Node{Pages: []int{1, 0}, Names: []api.Entry{{Name: "a"}, {}}}, 14},
		{api.Node{Ino: greatest, Kind: least, Links: greatest, Size: greatest, Up: least}, 7},
	} {
		if got := Words(c.n); got != c.want || got != plainWords(c.n) {
			t.Error(c.n, got)
		}
	}
}

func TestWordsOfDrawnNodes(t *testing.T) {
	for seed := range uint64(5000) {
		if n := drawn(draw(seed)); Words(n) != plainWords(n) {
			t.Fatal(n, Words(n))
		}
	}
}

// P14.2: Same.

// others are like n in all but one thing each.
func others(n api.Node) []api.Node {
	var l []api.Node
	for field := range 5 {
		for _, by := range []int{1, -1, 1 << 32, least} {
			o := n
			*[]*int{&o.Ino, &o.Kind, &o.Links, &o.Size, &o.Up}[field] += by
			l = append(l, o)
		}
	}
	for i := range n.Pages {
		o := n
		o.Pages = slices.Clone(n.Pages)
		o.Pages[i]++
		l = append(l, o)
		o.Pages = slices.Delete(slices.Clone(n.Pages), i, i+1)
		l = append(l, o)
	}
	for i := range n.Names {
		o := n
		o.Names = slices.Clone(n.Names)
		o.Names[i].Ino++
		l = append(l, o)
		o.Names = slices.Clone(n.Names)
		o.Names[i].Name += "x"
		l = append(l, o)
		o.Names = slices.Delete(slices.Clone(n.Names), i, i+1)
		l = append(l, o)
	}
	more := n
	more.Pages = append(slices.Clone(n.Pages), 0)
	l = append(l, more)
	more = n
	more.Names = append(slices.Clone(n.Names), api.Entry{})
	return append(l, more)
}

func TestSame(t *testing.T) {
	for _, n := range several() {
		if !Same(n, n) {
			t.Error(n, "isn't like itself")
		}
		for _, o := range others(n) {
			if Same(n, o) || Same(o, n) || !Same(o, o) {
				t.Error(n, o)
			}
		}
	}
}

func TestSameOfTwo(t *testing.T) {
	l := several()
	for i, a := range l {
		for k, b := range l {
			if Same(a, b) != (i == k) {
				t.Error(a, b, Same(a, b))
			}
		}
	}
}

func TestSameGoesByTheOrder(t *testing.T) {
	for _, c := range []struct{ a, b api.Node }{
		{api.Node{Pages: []int{1, 2}}, api.Node{Pages: []int{2, 1}}},
		{api.Node{Pages: []int{0, 2}}, api.Node{Pages: []int{2}}},
		{api.Node{Names: []api.Entry{{Name: "a", Ino: 1}, {Name: "b", Ino: 2}}}, api.Node{Names: []api.Entry{{Name: "b", Ino: 2}, {Name: "a", Ino: 1}}}},
		{api.Node{Ino: 1}, api.Node{Kind: 1}},
		{api.Node{Links: 1}, api.Node{Size: 1}},
		{api.Node{Up: 1}, api.Node{Size: 1}},
	} {
		if Same(c.a, c.b) {
			t.Error(c.a, c.b)
		}
	}
}

func TestSameOfDrawnNodes(t *testing.T) {
	for seed := range uint64(3000) {
		next := draw(seed)
		a := drawn(next)
		b := a
		switch next(3) {
		case 0:
			b = drawn(next)
		case 1:
			l := others(a)
			b = l[next(len(l))]
		}
		if Same(a, b) != plainSame(a, b) {
			t.Fatal(a, b, Same(a, b))
		}
	}
}

// P14.2: Copy.

func TestCopy(t *testing.T) {
	for _, n := range several() {
		if c := Copy(n); !plainSame(c, n) || !Same(c, n) {
			t.Error(n, c)
		}
	}
	for seed := range uint64(2000) {
		if n := drawn(draw(seed)); !plainSame(Copy(n), n) {
			t.Fatal(n, Copy(n))
		}
	}
}

func TestCopyIsItsOwn(t *testing.T) {
	n := dir("a", "b")
	n.Pages = []int{1, 2}
	c := Copy(n)
	c.Pages[0], c.Names[1] = 9, api.Entry{Name: "z", Ino: 99}
	if n.Pages[0] != 1 || n.Names[1] != (api.Entry{Name: "b", Ino: 11}) {
		t.Error("the copy's change is seen in", n)
	}
	n.Pages[1], n.Names[0] = 8, api.Entry{}
	if c.Pages[1] != 2 || c.Names[0] != (api.Entry{Name: "a", Ino: 10}) {
		t.Error("the change is seen in the copy", c)
	}
}

// Rules that hold everywhere: P1 to P3.

func TestAnythingMayBeAsked(t *testing.T) {
	for _, n := range several() {
		for _, x := range edges() {
			n.Size = x
			Right(n)
			Words(n)
			for _, y := range edges() {
				New(x, y, x)
				Resize(n, y)
				Put(n, x, y, y)
				Put(n, y, x, x)
			}
		}
	}
}

// hidden is n with things behind the ends of its lists, and those lists whole.
func hidden(n api.Node) (api.Node, []int, []api.Entry) {
	pages := append(slices.Clone(n.Pages), -77, -78, -79)
	names := append(slices.Clone(n.Names), api.Entry{Name: "hidden", Ino: -77}, api.Entry{Name: "more", Ino: -78})
	n.Pages, n.Names = pages[:len(n.Pages)], names[:len(n.Names)]
	return n, pages, names
}

// spoil writes over all that a node's lists have room for.
func spoil(n api.Node) {
	spoilRefs(n.Pages)
	l := n.Names[:cap(n.Names)]
	for i := range l {
		l[i] = api.Entry{Name: "spoilt", Ino: -7}
	}
}

func spoilRefs(l []int) {
	l = l[:cap(l)]
	for i := range l {
		l[i] = -7
	}
}

func TestArgumentsStayAsTheyAre(t *testing.T) {
	for _, plain := range several() {
		n, pages, names := hidden(plain)
		wantPages, wantNames := slices.Clone(pages), slices.Clone(names)
		spoil(Copy(n))
		spoilRefs(Refs(n))
		Words(n)
		Same(n, n)
		Right(n)
		for _, size := range []int{least, -1, 0, 1, n.Size, n.Size + 1, 300, 700, 800, 2000, mostSize, mostSize + 1, greatest} {
			got, cut := Resize(n, size)
			spoil(got)
			spoilRefs(cut)
			for _, i := range []int{-1, 0, 1, 2, 63, 64} {
				got, _ := Put(n, i, 55, size)
				spoil(got)
			}
		}
		if !slices.Equal(pages, wantPages) || !slices.Equal(names, wantNames) {
			t.Error(plain, pages, names)
		}
	}
}

// shown has what lies behind the ends of a node's lists, as far as they have room.
func shown(n api.Node) bool {
	for _, ref := range n.Pages[:cap(n.Pages)] {
		if ref <= -77 && ref >= -79 {
			return true
		}
	}
	for _, e := range n.Names[:cap(n.Names)] {
		if e.Ino == -77 || e.Ino == -78 {
			return true
		}
	}
	return false
}

func TestWhatLiesBehindIsNeitherReadNorHandedOut(t *testing.T) {
	for _, plain := range several() {
		n, _, _ := hidden(plain)
		if !Same(n, plain) || Words(n) != Words(plain) || Right(n) != Right(plain) || !slices.Equal(Refs(n), Refs(plain)) || shown(Copy(n)) || shown(api.Node{Pages: Refs(n)}) {
			t.Error(plain)
		}
		for _, size := range []int{-1, 0, 1, 256, 257, 600, 1024, 1025, 1300, mostSize, mostSize + 1} {
			got, cut := Resize(n, size)
			want, wantCut := plainResize(plain, size)
			if !plainSame(got, want) || !slices.Equal(cut, wantCut) || shown(got) || shown(api.Node{Pages: cut}) {
				t.Error(plain, size, got, cut)
			}
			got, stood := Put(n, 3, 5, size)
			want, wantStood := plainPut(plain, 3, 5, size)
			if !plainSame(got, want) || stood != wantStood || shown(got) {
				t.Error(plain, size, got, stood)
			}
		}
	}
}

func TestOneAnswersListsAreApart(t *testing.T) {
	for size := 0; size <= 1600; size += 100 {
		got, cut := Resize(file(1200), size)
		want, wantCut := plainResize(file(1200), size)
		spoilRefs(cut)
		if !plainSame(got, want) {
			t.Error(size, got)
		}
		got, cut = Resize(file(1200), size)
		spoil(got)
		if !slices.Equal(cut, wantCut) {
			t.Error(size, cut)
		}
	}
}

// apart tells whether no name of one node shares its bytes with the like name of the other.
func apart(a, b api.Node) bool {
	for i, e := range a.Names {
		if e.Name != "" && unsafe.StringData(e.Name) == unsafe.StringData(b.Names[i].Name) {
			return false
		}
	}
	return true
}

func TestNamesAreTheirOwn(t *testing.T) {
	n := dir("a", "", "bb", "ccccccccccccccccccccc")
	resized, _ := Resize(n, 300)
	refused, _ := Resize(n, -1)
	put, _ := Put(n, 0, 5, 300)
	putRefused, _ := Put(n, 0, 5, 0)
	for i, got := range []api.Node{Copy(n), resized, refused, put, putRefused} {
		if !slices.Equal(got.Names, n.Names) || !apart(got, n) {
			t.Error(i, got)
		}
	}
}

func TestNilIsLikeEmpty(t *testing.T) {
	none := api.Node{Ino: 2, Kind: api.File, Links: 1}
	empty := api.Node{Ino: 2, Kind: api.File, Links: 1, Pages: []int{}, Names: []api.Entry{}}
	if !Same(none, empty) || !Same(empty, none) || Right(none) != Right(empty) || Words(none) != Words(empty) {
		t.Error("nil isn't like empty")
	}
	if !Same(Copy(none), Copy(empty)) || len(Refs(none)) != 0 || len(Refs(empty)) != 0 {
		t.Error("none tells something")
	}
	for _, size := range []int{-1, 0, 1, 300} {
		a, aCut := Resize(none, size)
		b, bCut := Resize(empty, size)
		if !Same(a, b) || len(aCut) != 0 || len(bCut) != 0 {
			t.Error(size, a, b)
		}
		a, _ = Put(none, 0, 4, size)
		b, _ = Put(empty, 0, 4, size)
		if !Same(a, b) {
			t.Error(size, a, b)
		}
	}
}

func TestOneNodeAskedAtOneTime(t *testing.T) {
	n := file(1000)
	var group sync.WaitGroup
	for range 8 {
		group.Go(func() {
			for i := range 8 {
				less, cut := Resize(n, i*100)
				more, _ := Put(n, i, 99, 2048)
				if !Right(less) || len(cut)+len(less.Pages) != 4 || !Right(more) || Words(n) != 11 || !Same(n, Copy(n)) || len(Refs(n)) != 4 {
					t.Error(i)
				}
			}
		})
	}
	group.Wait()
}
