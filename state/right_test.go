package state

import (
	"slices"
	"strconv"
	"testing"

	"sump/api"
)

func fileNode(ino, links int, pages ...int) api.Node {
	return api.Node{Ino: ino, Kind: file, Links: links, Size: 256 * len(pages), Pages: pages}
}

func dirNode(ino, up int, names ...api.Entry) api.Node {
	return api.Node{Ino: ino, Kind: dir, Links: 1, Up: up, Names: names}
}

func entry(s string, ino int) api.Entry { return api.Entry{Name: s, Ino: ino} }

// rises tells whether the numbers rise.
func rises(l []api.Node) bool {
	for i := 1; i < len(l); i++ {
		if l[i].Ino <= l[i-1].Ino {
			return false
		}
	}
	return true
}

// ofAlike holds Of against the plain one, and what it tells against what it was given.
func ofAlike(t *testing.T, l []api.Node, last int) {
	t.Helper()
	p := &plain{l, last}
	want := rises(l) && p.right()
	s, is := Of(l, last)
	if is != want || (s != nil) != want {
		t.Fatal(l, last, "of", is, "want", want)
	}
	if is {
		if !s.Right() {
			t.Fatal(l, last, "isn't Right")
		}
		alike(t, s, p)
	}
}

// P16.4: Of, and Right of what it is asked of.

func TestOfWhatIsRight(t *testing.T) {
	for _, c := range []struct {
		l    []api.Node
		last int
	}{
		{[]api.Node{dirNode(1, 1)}, 1},
		{[]api.Node{dirNode(1, 1)}, 2},
		{[]api.Node{dirNode(1, 1)}, mostIno},
		{[]api.Node{dirNode(1, 1)}, greatest},
		{[]api.Node{dirNode(1, 1), fileNode(2, 0)}, 2},
		{[]api.Node{dirNode(1, 1), fileNode(7, 0, 3, 4)}, 9},
		{[]api.Node{dirNode(1, 1, entry("a", 2)), fileNode(2, 1, 5, 0, 0, 6)}, 2},
		{[]api.Node{dirNode(1, 1, entry("a", 2)), fileNode(2, 1, -5, 0, 5)}, 2},
		{[]api.Node{dirNode(1, 1, entry("a", mostIno)), fileNode(mostIno, 1)}, mostIno},
		{[]api.Node{dirNode(1, 1, entry("a", 2), entry("b", 2)), fileNode(2, 2)}, 2},
		{[]api.Node{dirNode(1, 1, entry("a", 2)), dirNode(2, 1, entry("a", 3)), dirNode(3, 2)}, 3},
		{[]api.Node{dirNode(1, 1, entry("a", 5)), dirNode(3, 5), dirNode(5, 1, entry("a", 3))}, 5},
		{[]api.Node{dirNode(1, 1, entry("a", 2), entry("b", 3)), dirNode(2, 1, entry("a", 4), entry("c", 4)), dirNode(3, 1, entry("a", 4)), fileNode(4, 3, 9)}, 4},
	} {
		if _, is := Of(c.l, c.last); !is {
			t.Error(c.l, c.last)
		}
		ofAlike(t, c.l, c.last)
	}
}

func TestOfWhatIsNot(t *testing.T) {
	for _, c := range []struct {
		why  string
		l    []api.Node
		last int
	}{
		{"no nodes", nil, 1},
		{"no nodes", []api.Node{}, 0},
		{"no root", []api.Node{fileNode(2, 0)}, 2},
		{"no root", []api.Node{dirNode(2, 2)}, 2},
		{"no root, a directory in itself", []api.Node{dirNode(2, 2, entry("a", 2))}, 2},
		{"root is a file", []api.Node{fileNode(1, 0)}, 1},
		{"root is a file, a directory in itself", []api.Node{fileNode(1, 0), dirNode(2, 2, entry("a", 2))}, 2},
		{"root isn't in itself", []api.Node{dirNode(1, 2)}, 2},
		{"root has a name", []api.Node{dirNode(1, 1, entry("a", 1))}, 1},
		{"root has a name", []api.Node{dirNode(1, 1, entry("a", 2)), dirNode(2, 1, entry("r", 1))}, 2},
		{"root above last", []api.Node{dirNode(1, 1)}, 0},
		{"last below 0", []api.Node{dirNode(1, 1)}, least},
		{"a file above last", []api.Node{dirNode(1, 1, entry("a", 3)), fileNode(3, 1)}, 2},
		{"an orphan above last", []api.Node{dirNode(1, 1), fileNode(3, 0)}, 2},
		{"a number above all", []api.Node{dirNode(1, 1), fileNode(mostIno+1, 0)}, greatest},
		{"a number twice", []api.Node{dirNode(1, 1), dirNode(1, 1)}, 1},
		{"a number twice", []api.Node{dirNode(1, 1), fileNode(2, 0), fileNode(2, 0)}, 2},
		{"numbers don't rise", []api.Node{dirNode(1, 1), fileNode(3, 0), fileNode(2, 0)}, 3},
		{"numbers don't rise", []api.Node{fileNode(2, 0), dirNode(1, 1)}, 3},
		{"number 0", []api.Node{fileNode(0, 0), dirNode(1, 1)}, 1},
		{"number below 0", []api.Node{fileNode(least, 0), dirNode(1, 1)}, 1},
		{"no such kind", []api.Node{dirNode(1, 1), {Ino: 2, Links: 0}}, 2},
		{"no such kind", []api.Node{dirNode(1, 1), {Ino: 2, Kind: 3}}, 2},
		{"a name without its node", []api.Node{dirNode(1, 1, entry("a", 2))}, 2},
		{"a name that may not be", []api.Node{dirNode(1, 1, entry("a/b", 2)), fileNode(2, 1)}, 2},
		{"names that don't rise", []api.Node{dirNode(1, 1, entry("b", 2), entry("a", 2)), fileNode(2, 2)}, 2},
		{"a name twice", []api.Node{dirNode(1, 1, entry("a", 2), entry("a", 2)), fileNode(2, 2)}, 2},
		{"fewer links than names", []api.Node{dirNode(1, 1, entry("a", 2), entry("b", 2)), fileNode(2, 1)}, 2},
		{"more links than names", []api.Node{dirNode(1, 1, entry("a", 2)), fileNode(2, 2)}, 2},
		{"a link, no name", []api.Node{dirNode(1, 1), fileNode(2, 1)}, 2},
		{"a name, no link", []api.Node{dirNode(1, 1, entry("a", 2)), fileNode(2, 0)}, 2},
		{"a directory without a name", []api.Node{dirNode(1, 1), dirNode(2, 1)}, 2},
		{"a directory named twice", []api.Node{dirNode(1, 1, entry("a", 2), entry("b", 2)), dirNode(2, 1)}, 2},
		{"a directory named twice", []api.Node{dirNode(1, 1, entry("a", 2), entry("b", 3)), dirNode(2, 1), dirNode(3, 1, entry("c", 2))}, 3},
		{"a directory not in its Up", []api.Node{dirNode(1, 1, entry("a", 2), entry("b", 3)), dirNode(2, 3), dirNode(3, 1)}, 3},
		{"a directory of an Up that isn't there", []api.Node{dirNode(1, 1, entry("a", 2)), dirNode(2, 3)}, 3},
		{"a directory whose Up is a file", []api.Node{dirNode(1, 1, entry("a", 2), entry("b", 3)), dirNode(2, 3), fileNode(3, 1)}, 3},
		{"a directory in itself", []api.Node{dirNode(1, 1), dirNode(2, 2, entry("a", 2))}, 2},
		{"a ring of two", []api.Node{dirNode(1, 1), dirNode(2, 3, entry("a", 3)), dirNode(3, 2, entry("a", 2))}, 3},
		{"a ring of two, and what is in it", []api.Node{dirNode(1, 1), dirNode(2, 3, entry("a", 3)), dirNode(3, 2, entry("a", 2), entry("b", 4), entry("c", 5)), dirNode(4, 3), fileNode(5, 1)}, 5},
		{"a ring of three beside a tree", []api.Node{dirNode(1, 1, entry("a", 2)), dirNode(2, 1), dirNode(3, 5, entry("a", 4)), dirNode(4, 3, entry("a", 5)), dirNode(5, 4, entry("a", 3))}, 5},
		{"a directory of two links", []api.Node{dirNode(1, 1, entry("a", 2)), {Ino: 2, Kind: dir, Links: 2, Up: 1}}, 2},
		{"a directory of a size", []api.Node{dirNode(1, 1, entry("a", 2)), {Ino: 2, Kind: dir, Links: 1, Up: 1, Size: 1}}, 2},
		{"a file with an Up", []api.Node{dirNode(1, 1, entry("a", 2)), {Ino: 2, Kind: file, Links: 1, Up: 1}}, 2},
		{"a file with names", []api.Node{dirNode(1, 1, entry("a", 2)), {Ino: 2, Kind: file, Links: 1, Names: []api.Entry{entry("a", 2)}}}, 2},
		{"a page too few", []api.Node{dirNode(1, 1), {Ino: 2, Kind: file, Size: 257, Pages: []int{3}}}, 2},
		{"a page too many", []api.Node{dirNode(1, 1), {Ino: 2, Kind: file, Size: 256, Pages: []int{3, 4}}}, 2},
		{"two refs alike in a file", []api.Node{dirNode(1, 1), fileNode(2, 0, 5, 5)}, 2},
		{"two refs alike in a file", []api.Node{dirNode(1, 1), fileNode(2, 0, 5, 6, 0, 5)}, 2},
		{"two refs alike in two files", []api.Node{dirNode(1, 1), fileNode(2, 0, 5, 7), fileNode(3, 0, 6, 7)}, 3},
		{"two refs below 0 alike", []api.Node{dirNode(1, 1), fileNode(2, 0, -5), fileNode(3, 0, 0, -5)}, 3},
	} {
		if s, is := Of(c.l, c.last); is || s != nil {
			t.Error(c.why, c.l, c.last)
		}
		ofAlike(t, c.l, c.last)
	}
}

// manyLinks has a file of so many links, and so many names.
func manyLinks(links, names int) []api.Node {
	root := dirNode(1, 1)
	for i := range names {
		root.Names = append(root.Names, entry(string(rune('a'+i)), 2))
	}
	return []api.Node{root, fileNode(2, links)}
}

func TestOfManyLinks(t *testing.T) {
	for links := range 20 {
		for names := range 20 {
			if _, is := Of(manyLinks(links, names), 2); is != (links == names && links <= 16) {
				t.Error(links, names, is)
			}
		}
	}
}

// P16.4: each field of each node another one.
func TestOfOneThingAnother(t *testing.T) {
	whole, numbers := nodesOf(t, tree(t)), []int{least, -1, 0, 1, 2, 3, 4, 5, 6, 7, 8, 9, 10, 11, 101, 103, 256, 300, 600, 601, mostIno, mostIno + 1, greatest}
	for i := range whole {
		for _, to := range numbers {
			fields := func(n *api.Node) []*int {
				l := []*int{&n.Ino, &n.Kind, &n.Links, &n.Size, &n.Up}
				for k := range n.Pages {
					l = append(l, &n.Pages[k])
				}
				for k := range n.Names {
					l = append(l, &n.Names[k].Ino)
				}
				return l
			}
			for k := range fields(&whole[i]) {
				l := (&plain{nodes: whole}).copy().nodes
				*fields(&l[i])[k] = to
				for _, last := range []int{9, 10, 11} {
					ofAlike(t, l, last)
				}
			}
		}
		for k := range whole[i].Names {
			for _, s := range []string{"", "a", "aa", "b", "d", "e", "g", "h", "x", "y", "z", ".", "a/b"} {
				l := (&plain{nodes: whole}).copy().nodes
				l[i].Names[k].Name = s
				ofAlike(t, l, 10)
			}
		}
		ofAlike(t, slices.Concat(whole[:i], whole[i+1:]), 10)
		ofAlike(t, slices.Concat(whole[:i+1], whole[i:]), 10)
	}
}

// P16.4: small lists of any nodes, of which some are Right.
func TestDrawnLists(t *testing.T) {
	some := 0
	for seed := range uint64(60000) {
		next := draw(seed)
		l := []api.Node{dirNode(1, 1)}
		for ino := 2; ino < 3+next(4); ino++ {
			if next(2) == 0 {
				l = append(l, fileNode(ino, next(3)))
			} else {
				l = append(l, dirNode(ino, 1+next(5)))
			}
		}
		for range next(6) {
			in := next(len(l))
			if l[in].Kind == dir {
				l[in].Names = append(l[in].Names, entry(string(rune('a'+len(l[in].Names))), 1+next(len(l)+1)))
			}
		}
		ofAlike(t, l, len(l))
		if _, is := Of(l, len(l)); is {
			some++
		}
	}
	if some < 500 {
		t.Error("too few are Right:", some)
	}
}

// P16.4: as Of makes no State that isn't Right, some that aren't are put together here.
func TestRightAsksForEverything(t *testing.T) {
	for _, p := range []plain{
		{[]api.Node{dirNode(1, 1)}, 0},
		{[]api.Node{dirNode(1, 1), dirNode(2, 3, entry("a", 3)), dirNode(3, 2, entry("a", 2))}, 3},
		{[]api.Node{dirNode(1, 1), fileNode(2, 1)}, 2},
		{[]api.Node{dirNode(1, 1), fileNode(2, 0, 5, 5)}, 2},
		{[]api.Node{fileNode(2, 0)}, 2},
		{nil, 1},
	} {
		s := &State{nodes: map[int]api.Node{}, last: p.last}
		for _, n := range p.nodes {
			s.nodes[n.Ino] = n
		}
		if s.Right() || p.right() {
			t.Error(p)
		}
	}
}

// P1: rows of directories as long as may be end, too.
func TestOfALongRowOfDirectories(t *testing.T) {
	const many = 1 << 16
	var row []api.Node
	for ino := 1; ino <= many; ino++ {
		row = append(row, dirNode(ino, max(1, ino-1), entry("a", ino+1)))
	}
	row[many-1].Names = nil
	s, is := Of(row, many)
	if !is || !s.Within(many, 1) || !s.Within(many, many/2) || s.Within(many/2, many) || s.Words() != 2+7*many+3*(many-1) {
		t.Fatal("a row", is)
	}
	if _, err := s.Apply(renames(1, "a", many, "b", 2), 0); err != 93 {
		t.Error("below itself", err)
	}
	row[0].Names, row[1].Up = nil, many
	row[many-1].Names = []api.Entry{entry("a", 2)}
	if _, is := Of(row, many); is {
		t.Error("a ring")
	}
}

func TestOfManyFiles(t *testing.T) {
	const many = 5000
	l := []api.Node{dirNode(1, 1)}
	for ino := 2; ino <= many; ino++ {
		l[0].Names = append(l[0].Names, entry(strconv.Itoa(100000+ino), ino))
		l = append(l, fileNode(ino, 1, 2*ino, 0, -2*ino))
	}
	s, is := Of(l, many)
	if !is || len(s.Refs()) != 2*(many-1) || len(s.Orphans()) != 0 || s.Words() != 2+7+(many-1)*(7+3+3) {
		t.Fatal(is)
	}
	for ino := 2; ino <= many; ino++ {
		if !finds(s, "/"+strconv.Itoa(100000+ino), ino) {
			t.Fatal(ino)
		}
	}
	l[many-1].Pages[1] = 4
	if _, is := Of(l, many); is {
		t.Error("two refs alike")
	}
}
