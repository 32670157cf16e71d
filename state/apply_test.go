package state

import (
	"slices"
	"strings"
	"testing"

	"sump/api"
)

// attempt is an effect, what Apply tells of it, and, where it is done, a look at what must be so then.
type attempt struct {
	e    api.Effect
	ref  int
	gone []int
	err  api.Errno
	look func(s *State) bool
}

// each tries each of l on a tree of its own, by the table, and against the plain one; of what is refused all must be as it was.
func each(t *testing.T, l []attempt) {
	t.Helper()
	for _, a := range l {
		s, p := tree(t), plainOf(t, tree(t))
		both(t, tree(t), p.copy(), a.e, a.ref)
		gone, err := s.Apply(a.e, a.ref)
		if err != a.err || !slices.Equal(gone, a.gone) {
			t.Error(bare(a.e), "told", gone, err)
		}
		if err != 0 {
			alike(t, s, p)
		} else if a.look != nil && !a.look(s) {
			t.Error(bare(a.e), nodesOf(t, s))
		}
		if !s.Right() {
			t.Error(bare(a.e), "isn't Right")
		}
	}
}

func nodeOf(s *State, ino int) api.Node {
	n, _ := s.Get(ino)
	return n
}

func finds(s *State, path string, ino int) bool {
	got, err := s.Find(path)
	return err == 0 && got == ino
}

func misses(s *State, path string) bool {
	_, err := s.Find(path)
	return err == 2
}

// P16.2: EfMake and EfLink.

func TestMake(t *testing.T) {
	each(t, []attempt{
		{e: makes(1, "n", 11, file), look: func(s *State) bool {
			return finds(s, "/n", 11) && s.Last() == 11 && sameNode(nodeOf(s, 11), api.Node{Ino: 11, Kind: file, Links: 1})
		}},
		{e: makes(3, "a", 11, dir), look: func(s *State) bool {
			return finds(s, "/d/a", 11) && s.Last() == 11 && sameNode(nodeOf(s, 11), api.Node{Ino: 11, Kind: dir, Links: 1, Up: 3})
		}},
		{e: makes(8, "deep", 11, dir), look: func(s *State) bool { return finds(s, "/d/g/h/deep", 11) && s.Within(11, 6) }},
		{e: makes(1, "c", 11, file), look: func(s *State) bool {
			return slices.Equal(nodeOf(s, 1).Names, []api.Entry{{Name: "a", Ino: 2}, {Name: "b", Ino: 2}, {Name: "c", Ino: 11}, {Name: "d", Ino: 3}, {Name: "e", Ino: 4}, {Name: "f", Ino: 5}})
		}},
		{e: makes(1, "n", 11, file), ref: 7},
		{e: makes(1, "n", 10, file), err: 93},
		{e: makes(1, "n", 12, file), err: 93},
		{e: makes(1, "n", 9, file), err: 93},
		{e: makes(1, "n", mostIno, file), err: 93},
		{e: makes(1, "a", 11, file), err: 93},
		{e: makes(1, "d", 11, dir), err: 93},
		{e: makes(2, "n", 11, file), err: 93},
		{e: makes(9, "n", 11, file), err: 93},
		{e: makes(11, "n", 11, dir), err: 93},
		{e: makes(77, "n", 11, file), err: 93},
		{e: makes(1, "n", 11, 3), err: 92},
		{e: makes(1, "n", 11, 0), err: 92},
		{e: makes(1, "a/b", 11, file), err: 92},
		{e: makes(1, strings.Repeat("n", 25), 11, file), err: 92},
		{e: makes(0, "n", 11, file), err: 92},
	})
}

func TestMakeGoesByLastNotByWhatIsThere(t *testing.T) {
	s := after(t, makes(1, "a", 2, file), makes(1, "b", 3, dir), unlinks(1, "a", 2), drops(2), rmdirs(1, "b", 3))
	if s.Last() != 3 || !slices.EqualFunc(nodesOf(t, s), []api.Node{{Ino: 1, Kind: dir, Links: 1, Up: 1}}, sameNode) {
		t.Fatal(s.Last(), nodesOf(t, s))
	}
	for ino := range 8 {
		if _, err := s.Copy().Apply(makes(1, "a", ino, file), 0); (err == 0) != (ino == 4) {
			t.Error(ino, err)
		}
	}
}

func TestMakeTheLastNumber(t *testing.T) {
	s, is := Of(nodesOf(t, New()), mostIno-1)
	if !is {
		t.Fatal("of")
	}
	if _, err := s.Apply(makes(1, "a", mostIno-1, file), 0); err != 93 {
		t.Error(err)
	}
	if _, err := s.Apply(makes(1, "a", mostIno, file), 0); err != 0 || s.Last() != mostIno || !s.Right() {
		t.Error(err, s.Last())
	}
	if _, err := s.Apply(makes(1, "b", mostIno+1, file), 0); err != 92 {
		t.Error(err)
	}
	for _, ino := range []int{1, 2, mostIno - 1, mostIno} {
		if _, err := s.Apply(makes(1, "b", ino, file), 0); err != 93 {
			t.Error(ino, err)
		}
	}
}

func TestMakeBehindAnyLast(t *testing.T) {
	for _, last := range []int{mostIno, mostIno + 1, greatest - 1, greatest} {
		s, is := Of(nodesOf(t, New()), last)
		if !is || s.Last() != last {
			t.Fatal(last, is)
		}
		for _, ino := range []int{1, 2, mostIno - 1, mostIno} {
			if _, err := s.Apply(makes(1, "b", ino, dir), 0); err != 93 {
				t.Error(last, ino, err)
			}
		}
	}
}

func TestLink(t *testing.T) {
	each(t, []attempt{
		{e: links(1, "n", 2), look: func(s *State) bool { return finds(s, "/n", 2) && finds(s, "/a", 2) && nodeOf(s, 2).Links == 3 }},
		{e: links(8, "a", 5), look: func(s *State) bool { return finds(s, "/d/g/h/a", 5) && nodeOf(s, 5).Links == 2 }},
		{e: links(1, "a", 2), err: 93},
		{e: links(1, "a", 5), err: 93},
		{e: links(1, "n", 3), err: 93},
		{e: links(1, "n", 1), err: 93},
		{e: links(1, "n", 9), err: 93},
		{e: links(1, "n", 11), err: 93},
		{e: links(2, "n", 2), err: 93},
		{e: links(77, "n", 2), err: 93},
		{e: links(1, "..", 2), err: 92},
		{e: links(1, "n", 0), err: 92},
	})
}

func TestMostLinks(t *testing.T) {
	s := after(t, makes(1, "n", 2, file))
	for many := 1; many < 16; many++ {
		if _, err := s.Apply(links(1, "n"+strings.Repeat("x", many), 2), 0); err != 0 || nodeOf(s, 2).Links != many+1 || !s.Right() {
			t.Fatal(many, err, nodeOf(s, 2))
		}
	}
	if _, err := s.Apply(links(1, "one more", 2), 0); err != 93 || nodeOf(s, 2).Links != 16 || !misses(s, "/one more") {
		t.Error(err)
	}
	if _, err := s.Apply(unlinks(1, "n", 2), 0); err != 0 {
		t.Error(err)
	}
	if _, err := s.Apply(links(1, "one more", 2), 0); err != 0 || nodeOf(s, 2).Links != 16 {
		t.Error(err)
	}
}

// P16.2: EfUnlink and EfRmdir.

func TestUnlink(t *testing.T) {
	each(t, []attempt{
		{e: unlinks(1, "a", 2), look: func(s *State) bool { return misses(s, "/a") && finds(s, "/b", 2) && nodeOf(s, 2).Links == 1 }},
		{e: unlinks(1, "f", 5), look: func(s *State) bool {
			return misses(s, "/f") && nodeOf(s, 5).Links == 0 && slices.Equal(s.Orphans(), []int{5, 9}) && slices.Equal(s.Refs(), []int{101, 102, 103, 104})
		}},
		{e: unlinks(3, "x", 7), ref: 9, look: func(s *State) bool { return misses(s, "/d/x") && slices.Equal(s.Orphans(), []int{7, 9}) }},
		{e: unlinks(1, "a", 5), err: 93},
		{e: unlinks(1, "x", 7), err: 93},
		{e: unlinks(3, "a", 2), err: 93},
		{e: unlinks(1, "e", 4), err: 93},
		{e: unlinks(1, "o", 9), err: 93},
		{e: unlinks(2, "a", 2), err: 93},
		{e: unlinks(77, "a", 2), err: 93},
		{e: unlinks(1, "", 2), err: 92},
	})
}

func TestRmdir(t *testing.T) {
	each(t, []attempt{
		{e: rmdirs(1, "e", 4), look: func(s *State) bool { return misses(s, "/e") && nodeOf(s, 4).Ino == 0 && s.Last() == 10 }},
		{e: rmdirs(6, "h", 8), look: func(s *State) bool { return misses(s, "/d/g/h") && len(nodeOf(s, 6).Names) == 0 }},
		{e: rmdirs(3, "y", 10), look: func(s *State) bool { return nodeOf(s, 10).Ino == 0 && s.Last() == 10 }},
		{e: rmdirs(1, "d", 3), err: 93},
		{e: rmdirs(3, "g", 6), err: 93},
		{e: rmdirs(1, "a", 2), err: 93},
		{e: rmdirs(1, "e", 8), err: 93},
		{e: rmdirs(1, "h", 8), err: 93},
		{e: rmdirs(1, "d", 1), err: 93},
		{e: rmdirs(2, "e", 4), err: 93},
		{e: rmdirs(77, "e", 4), err: 93},
		{e: rmdirs(1, ".", 1), err: 92},
	})
	if _, err := New().Apply(rmdirs(1, "a", 1), 0); err != 93 {
		t.Error(err)
	}
}

// P16.2: EfRename.

func TestRenameOfAFile(t *testing.T) {
	each(t, []attempt{
		{e: renames(1, "a", 1, "n", 2), look: func(s *State) bool { return misses(s, "/a") && finds(s, "/n", 2) && nodeOf(s, 2).Links == 2 }},
		{e: renames(1, "a", 8, "a", 2), look: func(s *State) bool { return misses(s, "/a") && finds(s, "/d/g/h/a", 2) && nodeOf(s, 2).Up == 0 }},
		{e: renames(1, "a", 1, "f", 2), look: func(s *State) bool {
			return misses(s, "/a") && finds(s, "/f", 2) && nodeOf(s, 2).Links == 2 && slices.Equal(s.Orphans(), []int{5, 9})
		}},
		{e: renames(3, "x", 1, "a", 7), look: func(s *State) bool { return finds(s, "/a", 7) && finds(s, "/b", 2) && nodeOf(s, 2).Links == 1 }},
		{e: renames(1, "f", 3, "x", 5), ref: 3, look: func(s *State) bool { return misses(s, "/f") && finds(s, "/d/x", 5) && nodeOf(s, 7).Links == 0 }},
		{e: renames(1, "a", 1, "a", 2), err: 93},
		{e: renames(1, "a", 1, "b", 2), err: 93},
		{e: renames(1, "b", 1, "a", 2), err: 93},
		{e: renames(1, "a", 1, "e", 2), err: 93},
		{e: renames(1, "a", 1, "d", 2), err: 93},
		{e: renames(1, "a", 5, "n", 2), err: 93},
		{e: renames(1, "a", 2, "n", 2), err: 93},
		{e: renames(1, "a", 77, "n", 2), err: 93},
		{e: renames(1, "a", 1, "n", 5), err: 93},
		{e: renames(1, "n", 1, "m", 2), err: 93},
		{e: renames(3, "a", 1, "n", 2), err: 93},
		{e: renames(2, "a", 1, "n", 2), err: 93},
		{e: renames(77, "a", 1, "n", 2), err: 93},
		{e: renames(1, "o", 1, "n", 9), err: 93},
		{e: renames(1, "a", 1, "n/m", 2), err: 92},
		{e: renames(1, "a", 1, "", 2), err: 92},
		{e: renames(1, "a", 0, "n", 2), err: 92},
	})
}

func TestRenameOfADirectory(t *testing.T) {
	each(t, []attempt{
		{e: renames(1, "d", 1, "n", 3), look: func(s *State) bool { return misses(s, "/d") && finds(s, "/n/g/h", 8) && nodeOf(s, 3).Up == 1 }},
		{e: renames(1, "d", 4, "d", 3), look: func(s *State) bool { return finds(s, "/e/d/g", 6) && nodeOf(s, 3).Up == 4 && s.Within(8, 4) }},
		{e: renames(3, "g", 1, "g", 6), look: func(s *State) bool { return finds(s, "/g/h", 8) && nodeOf(s, 6).Up == 1 && !s.Within(8, 3) }},
		{e: renames(1, "d", 1, "e", 3), look: func(s *State) bool { return finds(s, "/e/x", 7) && misses(s, "/d") && nodeOf(s, 4).Ino == 0 }},
		{e: renames(1, "e", 3, "y", 4), look: func(s *State) bool { return finds(s, "/d/y", 4) && nodeOf(s, 4).Up == 3 && nodeOf(s, 10).Ino == 0 }},
		{e: renames(3, "g", 3, "y", 6), look: func(s *State) bool { return finds(s, "/d/y/h", 8) && nodeOf(s, 6).Up == 3 }},
		{e: renames(6, "h", 3, "h", 8), look: func(s *State) bool { return finds(s, "/d/h", 8) && nodeOf(s, 8).Up == 3 }},
		{e: renames(1, "d", 3, "n", 3), err: 93},
		{e: renames(1, "d", 6, "n", 3), err: 93},
		{e: renames(1, "d", 8, "n", 3), err: 93},
		{e: renames(3, "g", 8, "n", 6), err: 93},
		{e: renames(1, "d", 8, "h", 3), err: 93},
		{e: renames(6, "h", 1, "d", 8), err: 93},
		{e: renames(6, "h", 3, "g", 8), err: 93},
		{e: renames(1, "e", 1, "a", 4), err: 93},
		{e: renames(1, "e", 1, "d", 4), err: 93},
		{e: renames(1, "e", 1, "e", 4), err: 93},
		{e: renames(1, "e", 2, "n", 4), err: 93},
		{e: renames(1, "e", 77, "n", 4), err: 93},
		{e: renames(1, "e", 3, "n", 6), err: 93},
		{e: renames(1, "n", 3, "n", 1), err: 93},
		{e: renames(1, "e", 1, "..", 4), err: 92},
	})
}

// P16.2: EfTrunc, EfWrite and EfDrop.

func TestTrunc(t *testing.T) {
	pages := func(ino, size int, want ...int) func(s *State) bool {
		return func(s *State) bool {
			n := nodeOf(s, ino)
			return n.Size == size && slices.Equal(n.Pages, want)
		}
	}
	each(t, []attempt{
		{e: truncs(5, 0), gone: []int{101, 102}, look: pages(5, 0)},
		{e: truncs(5, 1), gone: []int{102}, look: pages(5, 1, 101)},
		{e: truncs(5, 256), gone: []int{102}, look: pages(5, 256, 101)},
		{e: truncs(5, 257), gone: []int{102}, look: pages(5, 257, 101, 0)},
		{e: truncs(5, 512), gone: []int{102}, look: pages(5, 512, 101, 0)},
		{e: truncs(5, 513), look: pages(5, 513, 101, 0, 102)},
		{e: truncs(5, 600), look: pages(5, 600, 101, 0, 102)},
		{e: truncs(5, 1000), ref: 8, look: pages(5, 1000, 101, 0, 102, 0)},
		{e: truncs(5, 16384), look: func(s *State) bool { return len(nodeOf(s, 5).Pages) == 64 }},
		{e: truncs(9, 0), gone: []int{103, 104}, look: pages(9, 0)},
		{e: truncs(2, 0), look: pages(2, 0)},
		{e: truncs(2, 300), look: pages(2, 300, 0, 0)},
		{e: truncs(1, 0), err: 93},
		{e: truncs(4, 0), err: 93},
		{e: truncs(11, 0), err: 93},
		{e: truncs(77, 300), err: 93},
		{e: truncs(5, -1), err: 92},
		{e: truncs(5, 16385), err: 92},
	})
}

func TestWrite(t *testing.T) {
	pages := func(ino, size int, want ...int) func(s *State) bool {
		return func(s *State) bool {
			n := nodeOf(s, ino)
			return n.Size == size && slices.Equal(n.Pages, want)
		}
	}
	each(t, []attempt{
		{e: writes(2, 0, 1), ref: 7, look: pages(2, 1, 7)},
		{e: writes(2, 1, 300), ref: 7, look: pages(2, 300, 0, 7)},
		{e: writes(5, 0, 600), ref: 7, gone: []int{101}, look: pages(5, 600, 7, 0, 102)},
		{e: writes(5, 1, 600), ref: 7, look: pages(5, 600, 101, 7, 102)},
		{e: writes(5, 2, 601), ref: 7, gone: []int{102}, look: pages(5, 601, 101, 0, 7)},
		{e: writes(5, 4, 1100), ref: 7, look: pages(5, 1100, 101, 0, 102, 0, 7)},
		{e: writes(5, 0, 1100), ref: 7, gone: []int{101}, look: pages(5, 1100, 7, 0, 102, 0, 0)},
		{e: writes(5, 0, 600), ref: -3, gone: []int{101}, look: pages(5, 600, -3, 0, 102)},
		{e: writes(5, 0, 600), ref: 0, gone: []int{101}, look: pages(5, 600, 0, 0, 102)},
		{e: writes(5, 0, 600), ref: 101, gone: []int{101}, look: pages(5, 600, 101, 0, 102)},
		{e: writes(5, 63, 16384), ref: greatest, look: func(s *State) bool { return nodeOf(s, 5).Pages[63] == greatest }},
		{e: writes(9, 1, 300), ref: least, gone: []int{104}, look: pages(9, 300, 103, least)},
		{e: writes(5, 0, 599), ref: 7, err: 93},
		{e: writes(5, 0, 1), ref: 7, err: 93},
		{e: writes(1, 0, 1), ref: 7, err: 93},
		{e: writes(3, 0, 1), ref: 7, err: 93},
		{e: writes(11, 0, 1), ref: 7, err: 93},
		{e: writes(5, 3, 768), ref: 7, err: 92},
		{e: writes(5, 64, 16384), ref: 7, err: 92},
		{e: writes(5, -1, 600), ref: 7, err: 92},
		{e: api.Effect{Kind: 7, Ino: 5, Size: 600}, ref: 7, err: 92},
	})
}

func TestDrop(t *testing.T) {
	each(t, []attempt{
		{e: drops(9), gone: []int{103, 104}, look: func(s *State) bool {
			return nodeOf(s, 9).Ino == 0 && len(s.Orphans()) == 0 && slices.Equal(s.Refs(), []int{101, 102}) && s.Last() == 10
		}},
		{e: drops(2), err: 93},
		{e: drops(5), err: 93},
		{e: drops(4), err: 93},
		{e: drops(1), err: 93},
		{e: drops(11), err: 93},
		{e: drops(0), err: 92},
		{e: drops(mostIno + 1), err: 92},
		{e: api.Effect{}, err: 92},
		{e: api.Effect{Kind: 9, Ino: 9}, err: 92},
		{e: api.Effect{Kind: 8, Ino: 9, Dir: 1}, err: 92},
	})
}

// P16.2: the refs that go are told by their places, whoever else has like ones.
func TestRefsThatGoThoughOthersHaveThem(t *testing.T) {
	s := after(t, makes(1, "a", 2, file), makes(1, "b", 3, file))
	p := plainOf(t, s)
	for _, page := range []int{3, 0, 1} {
		both(t, s, p, writes(2, page, 1000), 40)
		both(t, s, p, writes(3, page, 1000), 40)
	}
	if s.Right() || !slices.Equal(s.Refs(), []int{40, 40, 40, 40, 40, 40}) {
		t.Fatal(s.Refs())
	}
	if gone, err := s.Apply(writes(2, 3, 1000), 41); err != 0 || !slices.Equal(gone, []int{40}) {
		t.Error(gone, err)
	}
	if gone, err := s.Apply(truncs(2, 1), 0); err != 0 || !slices.Equal(gone, []int{40, 41}) {
		t.Error(gone, err)
	}
	s.Apply(unlinks(1, "b", 3), 0)
	if gone, err := s.Apply(drops(3), 0); err != 0 || !slices.Equal(gone, []int{40, 40, 40}) {
		t.Error(gone, err)
	}
	if !s.Right() {
		t.Error("is Right again")
	}
}

// P16.2: each effect that has one of a few numbers and names in each of its fields.

func TestEachSmallEffect(t *testing.T) {
	s := tree(t)
	p := plainOf(t, s)
	names := []string{"a", "d", "e", "g", "h", "n", "x", "y"}
	try := func(e api.Effect) {
		trial := p.copy()
		refs, can := trial.apply(e, 77)
		now := s.Copy()
		got, err := now.Apply(e, 77)
		if (err == 0) != can || err != 0 && err != 93 || can && !slices.Equal(got, refs) || !can && len(got) > 0 {
			t.Fatal(bare(e), got, err, "want", refs, can)
		}
		if !can {
			trial = p
		} else if !now.Right() {
			t.Fatal(bare(e), "isn't Right")
		}
		if !slices.EqualFunc(nodesOf(t, now), trial.nodes, sameNode) || now.last != trial.last {
			t.Fatal(bare(e), nodesOf(t, now), "want", trial.nodes)
		}
	}
	for ino := 1; ino <= 12; ino++ {
		try(drops(ino))
		for _, size := range []int{0, 1, 256, 257, 600, 601, 1024} {
			try(truncs(ino, size))
			for page := 0; 256*page < size; page++ {
				try(writes(ino, page, size))
			}
		}
		for in := 1; in <= 12; in++ {
			for _, a := range names {
				try(makes(in, a, ino, file))
				try(makes(in, a, ino, dir))
				try(links(in, a, ino))
				try(unlinks(in, a, ino))
				try(rmdirs(in, a, ino))
			}
		}
	}
	for _, from := range []api.Entry{{Name: "1a", Ino: 2}, {Name: "1b", Ino: 2}, {Name: "1d", Ino: 3}, {Name: "1e", Ino: 4}, {Name: "1f", Ino: 5}, {Name: "3g", Ino: 6}, {Name: "3x", Ino: 7}, {Name: "6h", Ino: 8}, {Name: "3y", Ino: 10}, {Name: "1n", Ino: 11}, {Name: "2a", Ino: 2}, {Name: "1a", Ino: 5}} {
		for to := 1; to <= 12; to++ {
			for _, b := range names {
				try(renames(int(from.Name[0]-'0'), from.Name[1:], to, b, from.Ino))
			}
		}
	}
}

// drawnName is one of few, so that many are there already.
func drawnName(next func(int) int) string { return []string{"a", "b", "c", "é", "\xff"}[next(5)] }

// drawn is an effect that may well happen: its name and node go together more often than not.
func drawn(next func(int) int, p *plain) api.Effect {
	ino, in, to := 1+next(p.last+1), p.drawnDir(next), p.drawnDir(next)
	s := drawnName(next)
	if found := p.named(in, s); found != 0 && next(8) > 0 {
		ino = found
	}
	switch next(10) {
	case 0, 1:
		return makes(in, s, p.last+next(8)/7+1, 1+next(2))
	case 2:
		return links(in, s, 1+next(p.last+1))
	case 3:
		return unlinks(in, s, ino)
	case 4:
		return rmdirs(in, s, ino)
	case 5, 6:
		return renames(in, s, to, drawnName(next), ino)
	case 7:
		return truncs(1+next(p.last+1), next(1100))
	case 8:
		page := next(4)
		return writes(1+next(p.last+1), page, 256*page+1+next(1100))
	}
	return drops(1 + next(p.last+1))
}

// drawnDir is a directory mostly.
func (p *plain) drawnDir(next func(int) int) int {
	l := []int{1 + next(p.last+1)}
	for _, n := range p.nodes {
		if n.Kind == dir {
			l = append(l, n.Ino)
		}
	}
	return l[next(len(l))]
}

// P16.2, P16.3, P16.4 and P16.5: rows of any effects.

func TestDrawnEffects(t *testing.T) {
	for seed := range uint64(150) {
		next, s, p := draw(seed), New(), newPlain()
		for turn := range 160 {
			both(t, s, p, drawn(next, p), 1000+turn)
			if !s.Right() || !p.right() {
				t.Fatal(seed, turn, "isn't Right")
			}
		}
		for ino := range p.last + 2 {
			for in := range p.last + 2 {
				if s.Within(ino, in) != p.within(ino, in) {
					t.Fatal(seed, "within", ino, in)
				}
			}
		}
		for range 100 {
			var names []string
			for range next(5) {
				names = append(names, drawnName(next))
			}
			want, fails := p.find(names...)
			if got, err := s.Find("/" + strings.Join(names, "/")); got != want || err != fails {
				t.Fatal(seed, names, got, err)
			}
		}
		again, is := Of(nodesOf(t, s), s.Last())
		if !is {
			t.Fatal(seed, "of")
		}
		alike(t, again, p)
	}
}

// P16.5: refs that may be alike, or 0, or below it: what is done is the same, and it is Right just if no two are alike.
func TestDrawnRefs(t *testing.T) {
	for seed := range uint64(60) {
		next, s, p := draw(seed+1000), New(), newPlain()
		for range 120 {
			both(t, s, p, drawn(next, p), next(25)-12)
			if s.Right() != p.right() {
				t.Fatal(seed, "right", s.Right(), p.nodes)
			}
		}
	}
}

// P16.5: an effect of a State that is Right leaves it so, with refs below 0, too.
func TestRightStaysRightOfRefsBelow(t *testing.T) {
	for seed := range uint64(40) {
		next, s, p := draw(seed+2000), New(), newPlain()
		for turn := range 100 {
			e := drawn(next, p)
			if both(t, s, p, e, -1-turn); !s.Right() {
				t.Fatal(seed, bare(e))
			}
		}
	}
}
