package image

import (
	"slices"
	"strings"
	"sync"
	"testing"

	"sump/api"
	"sump/state"
)

// P18.1: Put.

func TestExample(t *testing.T) {
	want := []uint64{1, 1, 1, 2, 1, 0, 1, 0, 0, 17805852077014157880}
	if got := Put(state.New()); !slices.Equal(got, want) {
		t.Error(got)
	}
}

func TestPut(t *testing.T) {
	want := append(treeWords(), treeSum)
	if got := Put(tree(t)); !slices.Equal(got, want) {
		t.Error(got)
	}
}

// Numbers go from one to the next though a map has no order, and whatever order the nodes came in.
func TestPutGoesByNumber(t *testing.T) {
	s := state.New()
	for ino := 2; ino <= 200; ino++ {
		e := api.Effect{Kind: 1, Dir: 1 + (ino-2)/40*40, Name: strings.Repeat(string(rune('z'-ino%20)), 1+ino/20), Ino: ino, Page: dir}
		if _, err := s.Apply(e, 0); err != 0 {
			t.Fatal(ino, err)
		}
	}
	want := plainPut(nodesOf(s), 200)
	for range 20 {
		if got := Put(s); !slices.Equal(got, want) {
			t.Fatal(got)
		}
	}
	if again := stateOf(t, nodesOf(s), 200); !slices.Equal(Put(again), want) {
		t.Error("another state of these nodes has other words")
	}
}

// A node that went leaves its number to Last alone.
func TestPutBehindEffects(t *testing.T) {
	s := state.New()
	for i, e := range []api.Effect{
		{Kind: 1, Dir: 1, Name: "f", Ino: 2, Page: file},
		{Kind: 7, Ino: 2, Page: 1, Size: 300, Data: make([]byte, 256)},
		{Kind: 1, Dir: 1, Name: "d", Ino: 3, Page: dir},
		{Kind: 2, Dir: 3, Name: "é", Ino: 2},
		{Kind: 1, Dir: 3, Name: "x", Ino: 4, Page: dir},
		{Kind: 4, Dir: 3, Name: "x", Ino: 4},
		{Kind: 3, Dir: 1, Name: "f", Ino: 2},
	} {
		if _, err := s.Apply(e, 7); err != 0 {
			t.Fatal(i, err)
		}
	}
	want := sealed([]uint64{4, 3, 1, 2, 1, 0, 1, 0, 1, 1, 100, 3, 2, 1, 1, 300, 0, 2, 0, 0, 7, 3, 2, 1, 0, 1, 0, 1, 2, 43459, 2})
	if got := Put(s); !slices.Equal(got, want) {
		t.Error(got)
	}
}

func TestPutByTheWords(t *testing.T) {
	for seed := range uint64(300) {
		nodes, last := drawnNodes(draw(seed), 60)
		s := stateOf(t, nodes, last)
		want := plainPut(nodes, last)
		if got := Put(s); !slices.Equal(got, want) {
			t.Fatal(seed, got, want)
		}
		if Need(s) != len(want) || s.Words() != len(want)-1 {
			t.Fatal(seed, Need(s), s.Words(), len(want))
		}
	}
}

// What isn't Right, and refs below 0, are put by the chapter's words, too, though Of doesn't tell them.
func TestPutOfAnyRefs(t *testing.T) {
	for _, refs := range [][]int{{103, 103}, {101, 102}, {-1, least}, {greatest, greatest - 1}, {1 << 62, 1<<62 + 1}, {0, 0}} {
		s := tree(t)
		s.Turn(5, 0, 101, refs[0])
		s.Turn(6, 1, 103, refs[1])
		nodes := treeNodes()
		nodes[4].Pages[0], nodes[5].Pages[1] = refs[0], refs[1]
		if got := Put(s); !slices.Equal(got, plainPut(nodes, 12)) || len(got) != Need(s) {
			t.Error(refs, got)
		}
	}
}

func TestPutOfAnyLast(t *testing.T) {
	for _, last := range []int{9, 10, 12, mostIno, mostIno + 1, 1 << 62, 1<<62 + 1, greatest} {
		want := treeWords()
		want[0] = uint64(last)
		if got := Put(stateOf(t, treeNodes(), last)); !slices.Equal(got, sealed(want)) {
			t.Error(last, got)
		}
	}
}

func TestNobodys(t *testing.T) {
	for _, s := range nobodys() {
		if got := Put(s); len(got) != 0 {
			t.Error(got)
		}
		if got := Need(s); got != 0 {
			t.Error(got)
		}
	}
}

// P18.1: Need.

func TestNeed(t *testing.T) {
	if got := Need(state.New()); got != 10 {
		t.Error(got)
	}
	if got := Need(tree(t)); got != 79 {
		t.Error(got)
	}
	for size := 1; size <= 24; size++ {
		nodes := []api.Node{
			{Ino: 1, Kind: dir, Links: 1, Up: 1, Names: []api.Entry{{Name: strings.Repeat("n", size), Ino: 2}}},
			{Ino: 2, Kind: file, Links: 1, Size: 256 * size, Pages: make([]int, size)},
		}
		s := stateOf(t, nodes, 2)
		want := 2 + 7 + 2 + (size+7)/8 + 7 + size + 1
		if Need(s) != want || len(Put(s)) != want {
			t.Error(size, Need(s), len(Put(s)), want)
		}
	}
}

// P18.1: Node.

func TestNode(t *testing.T) {
	for _, c := range []struct {
		n    api.Node
		want []uint64
	}{
		{api.Node{}, []uint64{0, 0, 0, 0, 0, 0, 0}},
		{api.Node{Ino: 1, Kind: 2, Links: 3, Size: 4, Up: 5}, []uint64{1, 2, 3, 4, 5, 0, 0}},
		{api.Node{Pages: []int{}, Names: []api.Entry{}}, []uint64{0, 0, 0, 0, 0, 0, 0}},
		{api.Node{Ino: 2, Kind: 1, Links: 1, Size: 513, Pages: []int{7, 0, 6}}, []uint64{2, 1, 1, 513, 0, 3, 0, 7, 0, 6}},
		{api.Node{Ino: 1, Kind: 2, Links: 1, Up: 1, Names: []api.Entry{{Name: "a", Ino: 2}, {Name: "bc", Ino: 3}}}, []uint64{1, 2, 1, 0, 1, 0, 2, 1, 97, 2, 2, 25442, 3}},
		{api.Node{Pages: []int{8, 9}, Names: []api.Entry{{Name: "a", Ino: 2}}}, []uint64{0, 0, 0, 0, 0, 2, 1, 8, 9, 1, 97, 2}},
		{api.Node{Names: []api.Entry{{Name: "b", Ino: 2}, {Name: "", Ino: 0}, {Name: "b", Ino: 2}}}, []uint64{0, 0, 0, 0, 0, 0, 3, 1, 98, 2, 0, 0, 1, 98, 2}},
		{api.Node{Names: []api.Entry{{Name: "12345678", Ino: 4}}}, []uint64{0, 0, 0, 0, 0, 0, 1, 8, 4050765991979987505, 4}},
		{api.Node{Names: []api.Entry{{Name: "123456789", Ino: 4}}}, []uint64{0, 0, 0, 0, 0, 0, 1, 9, 4050765991979987505, 57, 4}},
		{api.Node{Names: []api.Entry{{Name: strings.Repeat("\xff", 24), Ino: 4}}}, []uint64{0, 0, 0, 0, 0, 0, 1, 24, 1<<64 - 1, 1<<64 - 1, 1<<64 - 1, 4}},
		{api.Node{Names: []api.Entry{{Name: "abcdefghijklmnopqrstuvwxy", Ino: 4}}}, []uint64{0, 0, 0, 0, 0, 0, 1, 25, 7523094288207667809, 8101815670912281193, 8680537053616894577, 121, 4}},
		{api.Node{Names: []api.Entry{{Name: "a\x00", Ino: -1}, {Name: "\x00\x00/", Ino: mostIno}}}, []uint64{0, 0, 0, 0, 0, 0, 2, 2, 97, 1<<64 - 1, 3, 47 << 16, 1048576}},
		{api.Node{Ino: -1, Kind: -2, Links: -3, Size: -4, Up: -5, Pages: []int{-6}}, []uint64{1<<64 - 1, 1<<64 - 2, 1<<64 - 3, 1<<64 - 4, 1<<64 - 5, 1, 0, 1<<64 - 6}},
		{api.Node{Ino: greatest, Kind: least, Links: greatest, Size: least, Up: greatest, Pages: []int{least, greatest}}, []uint64{1<<63 - 1, 1 << 63, 1<<63 - 1, 1 << 63, 1<<63 - 1, 2, 0, 1 << 63, 1<<63 - 1}},
	} {
		if got := Node(c.n); !slices.Equal(got, c.want) {
			t.Error(c.n, got)
		}
	}
}

// Pages and names of any number, also more than are read.
func TestNodeOfMany(t *testing.T) {
	for _, many := range []int{63, 64, 65, 255, 256, 65535, 65536, 65537} {
		n := api.Node{Ino: 3, Kind: file, Pages: make([]int, many), Names: make([]api.Entry, many+1)}
		for i := range many {
			n.Pages[i], n.Names[i] = i*i, api.Entry{Name: strings.Repeat("n", i%40), Ino: i}
		}
		if !slices.Equal(Node(n), plainNode(n)) {
			t.Error(many)
		}
	}
}

func TestPutIsMadeOfNodes(t *testing.T) {
	want := []uint64{12, 7}
	for _, n := range treeNodes() {
		want = append(want, Node(n)...)
	}
	if got := Put(tree(t)); !slices.Equal(got, sealed(want)) {
		t.Error(got)
	}
}

// P2 and P3: what is given stays as it is, what is told is new, and several may ask at once.

func TestNothingIsChanged(t *testing.T) {
	s, nodes := tree(t), treeNodes()
	want := append(treeWords(), treeSum)
	var all sync.WaitGroup
	for range 8 {
		all.Go(func() {
			l := Put(s)
			if !slices.Equal(l, want) || Need(s) != len(want) {
				t.Error(l)
			}
			clear(l)
			clear(Node(nodes[2]))
		})
	}
	all.Wait()
	alike(t, s, treeNodes(), 12)
	if !slices.EqualFunc(nodes, treeNodes(), sameNode) || !slices.Equal(Put(s), want) {
		t.Error(nodes, Put(s))
	}
}

func TestNodeLooksAtNothingBehindItsLists(t *testing.T) {
	n := api.Node{Pages: []int{1, 2, 3}[:1], Names: []api.Entry{{Name: "a", Ino: 1}, {Name: "b", Ino: 2}}[:1]}
	got := Node(n)
	if want := []uint64{0, 0, 0, 0, 0, 1, 1, 1, 1, 97, 1}; !slices.Equal(got, want) {
		t.Error(got)
	}
	clear(append(got, 0))
	if n.Pages[:3][1] != 2 || n.Names[:2][1].Name != "b" {
		t.Error(n)
	}
}
