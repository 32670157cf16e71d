package state

import (
	"slices"
	"strings"
	"sync"
	"testing"
	"unsafe"

	"sump/api"
)

// P16.1.

func TestExample(t *testing.T) {
	s := New()
	if refs, err := s.Apply(makes(1, "a", 2, file), 0); len(refs) != 0 || err != 0 {
		t.Fatal(refs, err)
	}
	if ino, err := s.Find("/a"); ino != 2 || err != 0 {
		t.Error(ino, err)
	}
}

func TestNew(t *testing.T) {
	s := New()
	alike(t, s, newPlain())
	if n, is := s.Get(1); !is || !sameNode(n, api.Node{Ino: 1, Kind: dir, Links: 1, Up: 1}) {
		t.Error(n, is)
	}
	if s.Last() != 1 || s.Words() != 9 || len(s.Refs()) != 0 || len(s.Orphans()) != 0 || !s.Right() || !finds(s, "/", 1) {
		t.Error(s.Last(), s.Words(), s.Refs(), s.Orphans(), s.Right())
	}
	s.Apply(makes(1, "a", 2, file), 0)
	if other := New(); other.Last() != 1 || !misses(other, "/a") {
		t.Error("another new one has what this one got")
	}
}

func TestTree(t *testing.T) {
	s := tree(t)
	if !slices.Equal(s.Refs(), []int{101, 102, 103, 104}) || !slices.Equal(s.Orphans(), []int{9}) || s.Last() != 10 || !s.Right() {
		t.Error(s.Refs(), s.Orphans(), s.Last(), s.Right())
	}
	if s.Words() != 2+10*7+3+2+9*3 {
		t.Error(s.Words())
	}
	if !sameNode(nodeOf(s, 5), api.Node{Ino: 5, Kind: file, Links: 1, Size: 600, Pages: []int{101, 0, 102}}) {
		t.Error(nodeOf(s, 5))
	}
	if !sameNode(nodeOf(s, 3), api.Node{Ino: 3, Kind: dir, Links: 1, Up: 1, Names: []api.Entry{{Name: "g", Ino: 6}, {Name: "x", Ino: 7}, {Name: "y", Ino: 10}}}) {
		t.Error(nodeOf(s, 3))
	}
	for _, ino := range []int{least, -1, 0, 11, mostIno, greatest} {
		if n, is := s.Get(ino); is || !sameNode(n, api.Node{}) {
			t.Error(ino, n, is)
		}
	}
}

func TestRefsGoByNumberThenByPlace(t *testing.T) {
	s := after(t, makes(1, "z", 2, file), makes(1, "a", 3, file))
	for i, page := range []int{2, 0, 3} {
		s.Apply(writes(3, page, 1024), 30+i)
		s.Apply(writes(2, page, 1024), 50-i)
	}
	if refs := s.Refs(); !slices.Equal(refs, []int{49, 50, 48, 31, 30, 32}) {
		t.Error(refs)
	}
}

func TestOrphansRise(t *testing.T) {
	s := New()
	for ino := 2; ino < 12; ino++ {
		s.Apply(makes(1, string(rune('z'-ino)), ino, 1+ino%3/2), 0)
	}
	for _, ino := range []int{9, 3, 7, 4, 6} {
		s.Apply(unlinks(1, string(rune('z'-ino)), ino), 0)
	}
	if l := s.Orphans(); !slices.Equal(l, []int{3, 4, 6, 7, 9}) {
		t.Error(l)
	}
}

func TestWordsOfNames(t *testing.T) {
	for size := 1; size <= 24; size++ {
		s := after(t, makes(1, strings.Repeat("n", size), 2, file), truncs(2, 256*size))
		if want := 2 + 7 + 2 + (size+7)/8 + 7 + size; s.Words() != want {
			t.Error(size, s.Words(), want)
		}
	}
}

// P16.1 and P5: Nodes.

func TestNodesAreLeftAndGoneThroughAgain(t *testing.T) {
	s := tree(t)
	row := s.Nodes()
	for most := range 12 {
		var seen []int
		for ino, n := range row {
			if ino != n.Ino {
				t.Fatal(ino, n)
			}
			if len(seen) == most {
				break
			}
			seen = append(seen, ino)
		}
		if want := []int{1, 2, 3, 4, 5, 6, 7, 8, 9, 10}; !slices.Equal(seen, want[:min(most, 10)]) {
			t.Error(most, seen)
		}
	}
	for outer := range row {
		many := 0
		for range row {
			many++
		}
		if many != 10 {
			t.Fatal(outer, many)
		}
	}
}

func TestNodesAreThoseOfThatTime(t *testing.T) {
	s := tree(t)
	p := plainOf(t, s)
	row := s.Nodes()
	for ino := range row {
		s.Apply(drops(ino), 0)
		s.Apply(truncs(ino, 0), 0)
		s.Apply(makes(1, "n"+string(rune('a'+ino)), s.Last()+1, file), 0)
	}
	var l []api.Node
	for _, n := range row {
		l = append(l, n)
	}
	if !slices.EqualFunc(l, p.nodes, sameNode) {
		t.Error(l)
	}
	if s.Last() != 20 || len(nodesOf(t, s)) != 19 || len(s.Refs()) != 0 {
		t.Error(nodesOf(t, s))
	}
}

// P16.3: Find.

func TestFind(t *testing.T) {
	s := tree(t)
	long := "/" + strings.Repeat("n", 25)
	for _, c := range []struct {
		path string
		ino  int
		err  api.Errno
	}{
		{"/", 1, 0}, {"//", 1, 0}, {"/a", 2, 0}, {"/b", 2, 0}, {"/d", 3, 0}, {"/d/", 3, 0}, {"//d//g/h/", 8, 0}, {"/d/x", 7, 0}, {"/e", 4, 0}, {"/a/", 2, 0},
		{"/n", 0, 2}, {"/x", 0, 2}, {"/d/a", 0, 2}, {"/d/g/h/a", 0, 2}, {"/e/a", 0, 2}, {"/o", 0, 2}, {"/A", 0, 2}, {"/aa", 0, 2},
		{"/n/a", 0, 2}, {"/n/a/b", 0, 2}, {"/d/n/a", 0, 2},
		{"/a/b", 0, 20}, {"/a/a/a", 0, 20}, {"/d/x/y", 0, 20}, {"/f/..b", 0, 20},
		{"", 0, 22}, {"a", 0, 22}, {"d/g", 0, 22}, {"/.", 0, 22}, {"/d/..", 0, 22}, {"/a/.", 0, 22}, {"/n/\x00", 0, 22},
		{long, 0, 36}, {"/n" + long, 0, 36}, {"/a" + long, 0, 36}, {strings.Repeat("/", 121), 0, 36}, {strings.Repeat("a", 121), 0, 36}, {strings.Repeat("/", 120), 1, 0},
		{"/." + long, 0, 22}, {long + "/.", 0, 36},
	} {
		if ino, err := s.Find(c.path); ino != c.ino || err != c.err {
			t.Error(c.path, ino, err)
		}
	}
}

// P16.3: Within.

func TestWithin(t *testing.T) {
	s := tree(t)
	up := map[int][]int{1: {1}, 3: {3, 1}, 4: {4, 1}, 6: {6, 3, 1}, 8: {8, 6, 3, 1}, 10: {10, 3, 1}}
	for _, ino := range []int{least, -1, 0, 1, 2, 3, 4, 5, 6, 7, 8, 9, 10, 11, mostIno, greatest} {
		for _, in := range []int{least, -1, 0, 1, 2, 3, 4, 5, 6, 7, 8, 9, 10, 11, mostIno, greatest} {
			if want := ino == in || slices.Contains(up[ino], in); s.Within(ino, in) != want {
				t.Error(ino, in, !want)
			}
		}
	}
}

// P16.3: Turn.

func TestTurn(t *testing.T) {
	for _, c := range []struct {
		ino, page, old, ref int
		is                  bool
		want                []int
	}{
		{5, 0, 101, 7, true, []int{7, 0, 102}},
		{5, 2, 102, -7, true, []int{101, 0, -7}},
		{5, 2, 102, 0, true, []int{101, 0, 0}},
		{5, 2, 102, 102, true, []int{101, 0, 102}},
		{5, 2, 102, 101, true, []int{101, 0, 101}},
		{5, 0, 101, least, true, []int{least, 0, 102}},
		{5, 1, 0, 7, false, nil},
		{5, 0, 0, 7, false, nil},
		{5, 0, 102, 7, false, nil},
		{5, 0, -101, 7, false, nil},
		{5, 0, 7, 7, false, nil},
		{5, -1, 101, 7, false, nil},
		{5, 3, 0, 7, false, nil},
		{5, 3, 102, 7, false, nil},
		{5, least, 101, 7, false, nil},
		{5, greatest, 101, 7, false, nil},
		{2, 0, 101, 7, false, nil},
		{2, 0, 0, 7, false, nil},
		{1, 0, 0, 7, false, nil},
		{1, 0, 101, 7, false, nil},
		{11, 0, 101, 7, false, nil},
		{0, 0, 0, 0, false, nil},
		{least, 0, 101, 7, false, nil},
		{greatest, 0, 101, 7, false, nil},
	} {
		s := tree(t)
		p := plainOf(t, s)
		if is := s.Turn(c.ino, c.page, c.old, c.ref); is != c.is {
			t.Error(c, is)
		}
		if c.is {
			p.at(c.ino).Pages = c.want
		}
		alike(t, s, p)
		if s.Right() != p.right() {
			t.Error(c, "right", s.Right())
		}
	}
	s := tree(t)
	if !s.Turn(9, 1, 104, -1) || s.Turn(9, 1, 104, -1) || !s.Turn(9, 1, -1, 104) {
		t.Error("there and back")
	}
	alike(t, s, plainOf(t, tree(t)))
}

// P16.1 and P2: what goes its own way, and what is told or given.

func TestCopyGoesItsOwnWay(t *testing.T) {
	change := func(s *State) {
		for _, e := range []api.Effect{makes(1, "n", 11, dir), renames(1, "a", 11, "a", 2), truncs(5, 0), unlinks(3, "x", 7), drops(9), rmdirs(1, "e", 4), writes(2, 0, 9), links(3, "l", 2)} {
			if _, err := s.Apply(e, 300); err != 0 {
				t.Fatal(bare(e), err)
			}
		}
		s.Turn(2, 0, 300, 301)
	}
	was := plainOf(t, tree(t))
	for _, copied := range []bool{false, true} {
		s := tree(t)
		other := s.Copy()
		alike(t, other, was)
		if copied {
			s, other = other, s
		}
		change(s)
		alike(t, other, was)
		if !other.Right() || !s.Right() || s.Last() != 11 {
			t.Error(copied, s.Last())
		}
		change(other)
		alike(t, other, plainOf(t, s))
	}
}

// spoil writes over all that a node has.
func spoil(n api.Node) {
	for i := range n.Pages[:cap(n.Pages)] {
		n.Pages[:cap(n.Pages)][i] = -99
	}
	for i := range n.Names[:cap(n.Names)] {
		n.Names[:cap(n.Names)][i] = api.Entry{Name: "spoilt", Ino: -99}
	}
}

func spoilNumbers(l []int) {
	for i := range l[:cap(l)] {
		l[:cap(l)][i] = -99
	}
}

func TestWhatIsToldIsItsOwn(t *testing.T) {
	s := tree(t)
	was := plainOf(t, s)
	row := s.Nodes()
	for range 2 {
		for ino, n := range row {
			if again := nodeOf(s, ino); !sameNode(n, again) {
				t.Fatal(n, again)
			}
			spoil(n)
			spoil(nodeOf(s, ino))
		}
	}
	spoilNumbers(s.Refs())
	spoilNumbers(s.Orphans())
	alike(t, s, was)
	for _, e := range []api.Effect{writes(5, 0, 600), truncs(5, 100), truncs(5, 0), drops(9)} {
		other := s.Copy()
		gone, err := other.Apply(e, 77)
		now := plainOf(t, other)
		spoilNumbers(gone)
		alike(t, s, was)
		alike(t, other, now)
		if err != 0 {
			t.Error(bare(e), err)
		}
	}
}

func TestWhatIsGivenToOfIsNotKept(t *testing.T) {
	whole := nodesOf(t, tree(t))
	given := (&plain{nodes: whole}).copy().nodes
	s, is := Of(given, 10)
	if !is || !slices.EqualFunc(given, whole, sameNode) {
		t.Fatal("of", is, given)
	}
	for i := range given {
		spoil(given[i])
		given[i] = api.Node{}
	}
	alike(t, s, &plain{whole, 10})
}

func TestWhatLiesBehindAListIsNotRead(t *testing.T) {
	whole := (&plain{nodes: nodesOf(t, tree(t))}).copy().nodes
	for i := range whole {
		pages := append(slices.Clone(whole[i].Pages), 101, 101)
		names := append(slices.Clone(whole[i].Names), entry("a", 1))
		whole[i].Pages, whole[i].Names = pages[:len(pages)-2], names[:len(names)-1]
	}
	more := append(slices.Clone(whole), api.Node{Ino: 1})
	s, is := Of(more[:len(whole)], 10)
	if !is {
		t.Fatal("of")
	}
	alike(t, s, &plain{whole, 10})
	s.Apply(truncs(5, 2000), 0)
	s.Apply(makes(3, "z", 11, file), 0)
	for _, n := range whole {
		if l := n.Pages[:len(n.Pages)+2]; !slices.Equal(l[len(n.Pages):], []int{101, 101}) {
			t.Error("pages behind", l)
		}
		if l := n.Names[:len(n.Names)+1]; l[len(n.Names)] != entry("a", 1) {
			t.Error("names behind", l)
		}
	}
	if pages := nodeOf(s, 5).Pages; !slices.Equal(pages, []int{101, 0, 102, 0, 0, 0, 0, 0}) {
		t.Error(pages)
	}
}

func TestNamesAreTheirOwn(t *testing.T) {
	given := strings.Repeat("g", 3)
	s := after(t, makes(1, given, 2, file), makes(1, "d", 3, dir))
	other := strings.Repeat("h", 3)
	s.Apply(renames(1, given, 3, other, 2), 0)
	s.Apply(links(3, given, 2), 0)
	l := []string{given, other}
	for range 2 {
		for _, n := range s.Nodes() {
			for _, e := range n.Names {
				for _, o := range l {
					if unsafe.StringData(e.Name) == unsafe.StringData(o) {
						t.Error("shared", e.Name)
					}
				}
				l = append(l, e.Name)
			}
		}
	}
	if n, _ := Of(nodesOf(t, s), 3); n == nil || len(l) != 2+2*3 {
		t.Error(l)
	}
}

func TestEffectsStayAsTheyAre(t *testing.T) {
	s, e := tree(t), writes(2, 0, 256)
	for i := range e.Data {
		e.Data[i] = byte(i)
	}
	s.Apply(e, 7)
	for i := range e.Data {
		if e.Data[i] != byte(i) {
			t.Fatal(i)
		}
	}
	if e.Ino != 2 || e.Size != 256 || len(e.Data) != 256 {
		t.Error(bare(e))
	}
}

func TestNoneAndEmptyAreTheSame(t *testing.T) {
	root := api.Node{Ino: 1, Kind: dir, Links: 1, Up: 1, Pages: []int{}, Names: []api.Entry{}}
	s, is := Of([]api.Node{root, {Ino: 2, Kind: file, Pages: []int{}, Names: []api.Entry{}}}, 2)
	if !is || len(s.Refs()) != 0 {
		t.Fatal(is)
	}
	alike(t, s, &plain{[]api.Node{dirNode(1, 1), fileNode(2, 0)}, 2})
	e := makes(1, "a", 3, file)
	e.Data = []byte{}
	if _, err := s.Apply(e, 0); err != 0 {
		t.Error(err)
	}
}

// P16.5, the last sentence: a State that nobody made.

func TestNobodyMade(t *testing.T) {
	var none *State
	for i, s := range []*State{none, {}, new(State)} {
		for range 2 {
			for _, e := range []api.Effect{{}, makes(1, "a", 2, file), drops(2), {Kind: 77}} {
				if refs, err := s.Apply(e, 1); len(refs) != 0 || err != 91 {
					t.Error(i, refs, err)
				}
			}
			for _, path := range []string{"", "/", "/a", strings.Repeat("/", 121)} {
				if ino, err := s.Find(path); ino != 0 || err != 91 {
					t.Error(i, path, ino, err)
				}
			}
			for _, ino := range []int{least, 0, 1, 2, greatest} {
				if n, is := s.Get(ino); is || !sameNode(n, api.Node{}) {
					t.Error(i, n, is)
				}
				if s.Within(ino, ino) || s.Within(ino, 1) || s.Turn(ino, 0, 0, 0) || s.Turn(ino, 0, 1, 2) {
					t.Error(i, ino)
				}
			}
			for ino, n := range s.Nodes() {
				t.Error(i, ino, n)
			}
			if s.Last() != 0 || s.Refs() != nil || s.Orphans() != nil || s.Right() || s.Words() != 0 || s.Copy() != nil {
				t.Error(i)
			}
		}
	}
}

// P1: any numbers and texts.

func TestAnyEffects(t *testing.T) {
	numbers := []int{least, -1, 0, 1, 2, 3, 5, 9, 11, mostIno, mostIno + 1, greatest}
	texts := []string{"", "a", "n", "a/b", "\xff", strings.Repeat("n", 25)}
	s := tree(t)
	for seed := range uint64(20000) {
		next := draw(seed)
		pick := func() int { return numbers[next(len(numbers))] }
		e := api.Effect{Kind: next(11) - 1, Ino: pick(), Dir: pick(), To: pick(), Page: pick(), Size: pick(), Name: texts[next(len(texts))], Other: texts[next(len(texts))], Data: make([]byte, 128*next(4))}
		ref := pick()
		if _, err := s.Copy().Apply(e, ref); err != 0 && err != 92 && err != 93 {
			t.Fatal(bare(e), err)
		}
		s.Turn(pick(), pick(), pick(), 101)
		s.Within(pick(), pick())
		s.Get(pick())
		s.Find(texts[next(len(texts))])
	}
}

func TestOneStateAskedAtOneTime(t *testing.T) {
	s := tree(t)
	want := plainOf(t, s)
	var group sync.WaitGroup
	for range 8 {
		group.Go(func() {
			for range 20 {
				other := s.Copy()
				other.Apply(truncs(5, 0), 0)
				other.Apply(makes(1, "n", 11, file), 0)
				if !s.Right() || s.Last() != 10 || s.Words() != want.words() || len(s.Refs()) != 4 || !finds(s, "/d/g/h", 8) || !s.Within(8, 3) || len(s.Orphans()) != 1 {
					t.Error("changed")
				}
				for _, n := range s.Nodes() {
					if !sameNode(n, *want.at(n.Ino)) {
						t.Error(n)
					}
				}
			}
		})
	}
	group.Wait()
}
