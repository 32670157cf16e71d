package state

import (
	"slices"
	"strings"
	"testing"

	"sump/api"
	"sump/effect"
)

// The numbers of the document, written out, so that no constant of the program is held against itself.
const (
	greatest = int(^uint(0) >> 1)
	least    = -greatest - 1
	mostIno  = 1048576
	file     = 1
	dir      = 2
)

// draw is a row of numbers that is the same each time.
func draw(seed uint64) func(below int) int {
	x := seed*2862933555777941757 + 88172645463325252
	return func(below int) int {
		x ^= x << 13
		x ^= x >> 7
		x ^= x << 17
		return int(x >> 20 % uint64(below))
	}
}

// plain is a State as a list of nodes, by number, and does what the chapter says word by word.
type plain struct {
	nodes []api.Node
	last  int
}

func newPlain() *plain {
	return &plain{[]api.Node{{Ino: 1, Kind: dir, Links: 1, Up: 1}}, 1}
}

func ownNode(n api.Node) api.Node {
	n.Pages, n.Names = slices.Clone(n.Pages), slices.Clone(n.Names)
	return n
}

func (p *plain) copy() *plain {
	q := &plain{last: p.last}
	for _, n := range p.nodes {
		q.nodes = append(q.nodes, ownNode(n))
	}
	return q
}

// at is the node itself, or nil.
func (p *plain) at(ino int) *api.Node {
	for i := range p.nodes {
		if p.nodes[i].Ino == ino {
			return &p.nodes[i]
		}
	}
	return nil
}

func (p *plain) isFile(ino int) bool { return p.at(ino) != nil && p.at(ino).Kind == file }
func (p *plain) isDir(ino int) bool  { return p.at(ino) != nil && p.at(ino).Kind == dir }

// named is the node of a name in a directory; 0 of none.
func (p *plain) named(in int, s string) int {
	if !p.isDir(in) {
		return 0
	}
	for _, e := range p.at(in).Names {
		if e.Name == s {
			return e.Ino
		}
	}
	return 0
}

func (p *plain) name(in int, s string, ino int) {
	n := p.at(in)
	n.Names = append(n.Names, api.Entry{Name: s, Ino: ino})
	slices.SortFunc(n.Names, func(a, b api.Entry) int { return strings.Compare(a.Name, b.Name) })
}

func (p *plain) unname(in int, s string) {
	n := p.at(in)
	n.Names = slices.DeleteFunc(n.Names, func(e api.Entry) bool { return e.Name == s })
}

func (p *plain) goes(ino int) {
	p.nodes = slices.DeleteFunc(p.nodes, func(n api.Node) bool { return n.Ino == ino })
}

// within goes up at most as often as there are nodes, since lists that aren't Right may have rings.
func (p *plain) within(ino, in int) bool {
	if ino == in {
		return true
	}
	for range p.nodes {
		if ino == 1 || !p.isDir(ino) {
			return false
		}
		if ino = p.at(ino).Up; ino == in {
			return true
		}
	}
	return false
}

func need(size int) int { return (size + 255) / 256 }

func refsOf(pages []int) []int {
	var refs []int
	for _, ref := range pages {
		if ref != 0 {
			refs = append(refs, ref)
		}
	}
	return refs
}

// resize cuts the pages, or makes more of them, and tells those that were cut off.
func resize(n *api.Node, size int) []int {
	var cut []int
	for len(n.Pages) > need(size) {
		cut = append([]int{n.Pages[len(n.Pages)-1]}, cut...)
		n.Pages = n.Pages[:len(n.Pages)-1]
	}
	for len(n.Pages) < need(size) {
		n.Pages = append(n.Pages, 0)
	}
	n.Size = size
	return refsOf(cut)
}

// apply is P16.2. A call of it that fails may have changed p.
func (p *plain) apply(e api.Effect, ref int) ([]int, bool) {
	switch e.Kind {
	case 1:
		return nil, p.make(e)
	case 2:
		return nil, p.link(e)
	case 3:
		return nil, p.unlink(e.Dir, e.Name, e.Ino)
	case 4:
		return nil, p.rmdir(e.Dir, e.Name, e.Ino)
	case 5:
		return nil, p.rename(e)
	}
	if !p.isFile(e.Ino) {
		return nil, false
	}
	n := p.at(e.Ino)
	switch e.Kind {
	case 6:
		return resize(n, e.Size), true
	case 7:
		if e.Size < n.Size {
			return nil, false
		}
		resize(n, e.Size)
		stood := n.Pages[e.Page]
		n.Pages[e.Page] = ref
		return refsOf([]int{stood}), true
	}
	if n.Links > 0 {
		return nil, false
	}
	refs := refsOf(n.Pages)
	p.goes(e.Ino)
	return refs, true
}

func (p *plain) make(e api.Effect) bool {
	if !p.isDir(e.Dir) || p.named(e.Dir, e.Name) != 0 || e.Ino != p.last+1 {
		return false
	}
	n := api.Node{Ino: e.Ino, Kind: e.Page, Links: 1}
	if e.Page == dir {
		n.Up = e.Dir
	}
	p.nodes = append(p.nodes, n)
	p.last = e.Ino
	p.name(e.Dir, e.Name, e.Ino)
	return true
}

func (p *plain) link(e api.Effect) bool {
	if !p.isDir(e.Dir) || p.named(e.Dir, e.Name) != 0 || !p.isFile(e.Ino) {
		return false
	}
	n := p.at(e.Ino)
	if n.Links < 1 || n.Links > 15 {
		return false
	}
	n.Links++
	p.name(e.Dir, e.Name, e.Ino)
	return true
}

func (p *plain) unlink(in int, s string, ino int) bool {
	if p.named(in, s) != ino || !p.isFile(ino) {
		return false
	}
	p.unname(in, s)
	p.at(ino).Links--
	return true
}

func (p *plain) rmdir(in int, s string, ino int) bool {
	if p.named(in, s) != ino || !p.isDir(ino) || len(p.at(ino).Names) > 0 || ino == 1 {
		return false
	}
	p.unname(in, s)
	p.goes(ino)
	return true
}

func (p *plain) rename(e api.Effect) bool {
	if p.named(e.Dir, e.Name) != e.Ino || !p.isDir(e.To) {
		return false
	}
	if p.isDir(e.Ino) && p.within(e.To, e.Ino) {
		return false
	}
	if other := p.named(e.To, e.Other); other != 0 {
		if other == e.Ino {
			return false
		}
		if p.isFile(e.Ino) && !p.unlink(e.To, e.Other, other) {
			return false
		}
		if p.isDir(e.Ino) && !p.rmdir(e.To, e.Other, other) {
			return false
		}
	}
	p.unname(e.Dir, e.Name)
	p.name(e.To, e.Other, e.Ino)
	if p.isDir(e.Ino) {
		p.at(e.Ino).Up = e.To
	}
	return true
}

// find is P16.3's Find of the names of a path.
func (p *plain) find(names ...string) (int, api.Errno) {
	at := 1
	for _, s := range names {
		if !p.isDir(at) {
			return 0, 20
		}
		if at = p.named(at, s); at == 0 {
			return 0, 2
		}
	}
	return at, 0
}

func (p *plain) refs() []int {
	var refs []int
	for _, n := range p.nodes {
		refs = append(refs, refsOf(n.Pages)...)
	}
	return refs
}

func (p *plain) orphans() []int {
	var out []int
	for _, n := range p.nodes {
		if n.Kind == file && n.Links == 0 {
			out = append(out, n.Ino)
		}
	}
	return out
}

func (p *plain) words() int {
	many := 2
	for _, n := range p.nodes {
		many += 7 + len(n.Pages)
		for _, e := range n.Names {
			many += 2 + (len(e.Name)+7)/8
		}
	}
	return many
}

func mayBeNamed(s string) bool {
	return s != "" && s != "." && s != ".." && len(s) <= 24 && !strings.ContainsAny(s, "/\x00")
}

// rightAlone is what of P16.4 one node has by itself (P14.1 and P15.1).
func rightAlone(n api.Node) bool {
	if n.Ino < 1 || n.Ino > mostIno || n.Links < 0 || n.Links > 16 {
		return false
	}
	for i, e := range n.Names {
		if !mayBeNamed(e.Name) || e.Ino < 1 || e.Ino > mostIno || i > 0 && n.Names[i-1].Name >= e.Name {
			return false
		}
	}
	switch n.Kind {
	case file:
		return n.Up == 0 && len(n.Names) == 0 && n.Size >= 0 && n.Size <= 16384 && len(n.Pages) == need(n.Size)
	case dir:
		up := n.Up >= 1 && n.Up <= mostIno && (n.Ino != 1 || n.Up == 1)
		return n.Size == 0 && len(n.Pages) == 0 && up && n.Links == 1
	}
	return false
}

// right is P16.4, sentence by sentence.
func (p *plain) right() bool {
	for _, n := range p.nodes {
		if !rightAlone(n) || n.Ino > p.last {
			return false
		}
	}
	if !p.isDir(1) {
		return false
	}
	names, inUp := map[int]int{}, map[int]int{}
	for _, n := range p.nodes {
		for _, e := range n.Names {
			if e.Ino == 1 || p.at(e.Ino) == nil {
				return false
			}
			names[e.Ino]++
			if p.at(e.Ino).Up == n.Ino {
				inUp[e.Ino]++
			}
		}
	}
	for _, n := range p.nodes {
		if n.Kind == dir && n.Ino != 1 && (names[n.Ino] != 1 || inUp[n.Ino] != 1 || !p.within(n.Ino, 1)) {
			return false
		}
		if n.Kind == file && names[n.Ino] != n.Links {
			return false
		}
	}
	refs := p.refs()
	for i, ref := range refs {
		if slices.Contains(refs[:i], ref) {
			return false
		}
	}
	return true
}

// nodesOf are all nodes that a State tells; it fails where a number isn't its node's.
func nodesOf(t *testing.T, s *State) []api.Node {
	t.Helper()
	var l []api.Node
	for ino, n := range s.Nodes() {
		if ino != n.Ino {
			t.Fatal("number", ino, n)
		}
		l = append(l, n)
	}
	return l
}

func sameNode(a, b api.Node) bool {
	return a.Ino == b.Ino && a.Kind == b.Kind && a.Links == b.Links && a.Size == b.Size && a.Up == b.Up &&
		slices.Equal(a.Pages, b.Pages) && slices.Equal(a.Names, b.Names)
}

// alike holds all that s tells without an argument, and each node, against p.
func alike(t *testing.T, s *State, p *plain) {
	t.Helper()
	got := nodesOf(t, s)
	if !slices.EqualFunc(got, p.nodes, sameNode) {
		t.Fatal("nodes", got, "want", p.nodes)
	}
	if s.Last() != p.last {
		t.Fatal("last", s.Last(), "want", p.last)
	}
	if refs := s.Refs(); !slices.Equal(refs, p.refs()) {
		t.Fatal("refs", refs, "want", p.refs())
	}
	if l := s.Orphans(); !slices.Equal(l, p.orphans()) {
		t.Fatal("orphans", l, "want", p.orphans())
	}
	if s.Words() != p.words() {
		t.Fatal("words", s.Words(), "want", p.words())
	}
	for ino := -1; ino <= p.last+1 && ino < 40; ino++ {
		n, is := s.Get(ino)
		want := p.at(ino)
		if is != (want != nil) || is && !sameNode(n, *want) || !is && !sameNode(n, api.Node{}) {
			t.Fatal("get", ino, n, is)
		}
	}
}

// both Applies e to s, and to p where it can happen, and holds what is told, and what is there then, against each other.
func both(t *testing.T, s *State, p *plain, e api.Effect, ref int) {
	t.Helper()
	want, trial := effect.Check(e), p.copy()
	var gone []int
	if want == 0 {
		refs, can := trial.apply(e, ref)
		if gone = refs; can {
			*p = *trial
		} else {
			gone, want = nil, 93
		}
	}
	refs, err := s.Apply(e, ref)
	if err != want || !slices.Equal(refs, gone) {
		t.Fatal(bare(e), ref, "told", refs, err, "want", gone, want)
	}
	alike(t, s, p)
}

// bare is e without Data, to be told shortly.
func bare(e api.Effect) api.Effect {
	e.Data = nil
	return e
}

func makes(in int, s string, ino, kind int) api.Effect {
	return api.Effect{Kind: 1, Dir: in, Name: s, Ino: ino, Page: kind}
}

func links(in int, s string, ino int) api.Effect {
	return api.Effect{Kind: 2, Dir: in, Name: s, Ino: ino}
}

func unlinks(in int, s string, ino int) api.Effect {
	return api.Effect{Kind: 3, Dir: in, Name: s, Ino: ino}
}

func rmdirs(in int, s string, ino int) api.Effect {
	return api.Effect{Kind: 4, Dir: in, Name: s, Ino: ino}
}

func renames(in int, s string, to int, other string, ino int) api.Effect {
	return api.Effect{Kind: 5, Dir: in, Name: s, To: to, Other: other, Ino: ino}
}

func truncs(ino, size int) api.Effect { return api.Effect{Kind: 6, Ino: ino, Size: size} }

func writes(ino, page, size int) api.Effect {
	return api.Effect{Kind: 7, Ino: ino, Page: page, Size: size, Data: make([]byte, 256)}
}

func drops(ino int) api.Effect { return api.Effect{Kind: 8, Ino: ino} }

// after is a new State to which all of l happened, each EfWrite with a ref of its own: 101, 102, ..
func after(t *testing.T, l ...api.Effect) *State {
	t.Helper()
	s, ref := New(), 100
	for _, e := range l {
		if e.Kind == 7 {
			ref++
		}
		if _, err := s.Apply(e, ref); err != 0 {
			t.Fatal(bare(e), err)
		}
	}
	return s
}

// plainOf is what s is now, as a plain one.
func plainOf(t *testing.T, s *State) *plain {
	t.Helper()
	return &plain{nodesOf(t, s), s.Last()}
}

// tree is what the tables start from:
//
//	/      1: a (2), b (2), d (3), e (4), f (5)
//	/d     3: g (6), x (7), y (10)
//	/d/g   6: h (8)
//	/d/y   10, /e 4 and /d/g/h 8: directories without names
//	2, 7   files without pages; 5 has pages 101, 0, 102; 9 is an orphan with 103, 104
func tree(t *testing.T) *State {
	t.Helper()
	return after(t,
		makes(1, "a", 2, file), links(1, "b", 2), makes(1, "d", 3, dir), makes(1, "e", 4, dir), makes(1, "f", 5, file),
		makes(3, "g", 6, dir), makes(3, "x", 7, file), makes(6, "h", 8, dir), makes(1, "o", 9, file), makes(3, "y", 10, dir),
		writes(5, 0, 256), writes(5, 2, 600), writes(9, 0, 300), writes(9, 1, 300), unlinks(1, "o", 9))
}
