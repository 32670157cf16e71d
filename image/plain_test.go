package image

import (
	"slices"
	"strings"
	"testing"

	"sump/api"
	"sump/state"
)

// The numbers of the document, written out, so that no constant of the program is held against itself.
const (
	errCorrupt api.Errno = 74
	greatest             = int(^uint(0) >> 1)
	least                = -greatest - 1
	mostIno              = 1048576
	mostRead             = 65536
	file                 = 1
	dir                  = 2
)

// draw is a row of numbers that is the same each time.
func draw(seed uint64) func(below int) int {
	x := seed*2862933555777941757 + 88172645463325252
	return func(below int) int {
		x ^= x << 13
		x ^= x >> 7
		x ^= x << 17
		return int(x >> 20 % uint64(below))
	}
}

// plainSum is the sum that the chapter of check tells.
func plainSum(l []uint64) uint64 {
	sum := uint64(14695981039346656037)
	for _, w := range l {
		sum ^= w
		sum *= 1099511628211
	}
	return sum
}

// sealed are l's words with their sum behind them.
func sealed(l []uint64) []uint64 { return append(slices.Clone(l), plainSum(l)) }

// plainText is a text's length and its bytes, eight a word, the first one lowest.
func plainText(s string) []uint64 {
	l := []uint64{uint64(len(s))}
	for i := range len(s) {
		if i%8 == 0 {
			l = append(l, 0)
		}
		l[len(l)-1] += uint64(s[i]) << (i % 8 * 8)
	}
	return l
}

// plainNode and plainPut go by the chapter's words, whether the node or the nodes may be or not.
func plainNode(n api.Node) []uint64 {
	l := []uint64{uint64(n.Ino), uint64(n.Kind), uint64(n.Links), uint64(n.Size), uint64(n.Up), uint64(len(n.Pages)), uint64(len(n.Names))}
	for _, ref := range n.Pages {
		l = append(l, uint64(ref))
	}
	for _, e := range n.Names {
		l = append(append(l, plainText(e.Name)...), uint64(e.Ino))
	}
	return l
}

func plainPut(nodes []api.Node, last int) []uint64 {
	l := []uint64{uint64(last), uint64(len(nodes))}
	for _, n := range nodes {
		l = append(l, plainNode(n)...)
	}
	return sealed(l)
}

// plainRead reads words one by one, and panics where there are none, or where they can't be.
type plainRead struct{ l []uint64 }

func (p *plainRead) word() uint64 {
	w := p.l[0]
	p.l = p.l[1:]
	return w
}

func (p *plainRead) number(most uint64) int {
	w := p.word()
	if w > most {
		panic("too great")
	}
	return int(w)
}

func (p *plainRead) name() string {
	n := p.number(24)
	var b []byte
	for range (n + 7) / 8 {
		for w, i := p.word(), 0; i < 8; i++ {
			b = append(b, byte(w>>(8*i)))
		}
	}
	if strings.Trim(string(b[n:]), "\x00") != "" {
		panic("no bytes of the name")
	}
	return string(b[:n])
}

func (p *plainRead) node() api.Node {
	most := uint64(greatest)
	n := api.Node{Ino: p.number(most), Kind: p.number(most), Links: p.number(most), Size: p.number(most), Up: p.number(most)}
	pages, names := p.number(64), p.number(mostRead)
	for range pages {
		n.Pages = append(n.Pages, p.number(most))
	}
	for range names {
		name := p.name()
		n.Names = append(n.Names, api.Entry{Name: name, Ino: p.number(most)})
	}
	return n
}

// plainOf reads by the chapter's words; whether it is Right is left to layer 16.
func plainOf(l []uint64) (nodes []api.Node, last int, is bool) {
	defer func() {
		if recover() != nil {
			nodes, last, is = nil, 0, false
		}
	}()
	end := len(l) - 1
	if plainSum(l[:end]) != l[end] {
		return nil, 0, false
	}
	p := &plainRead{l[:end]}
	last = p.number(uint64(greatest))
	for range p.number(mostRead) {
		nodes = append(nodes, p.node())
	}
	_, right := state.Of(nodes, last)
	return nodes, last, right && len(p.l) == 0
}

// treeNodes are those of a state of all that a state may have: names of one file in several places and of each length of words, holes, an orphan, numbers that are missing. Its Last is 12.
func treeNodes() []api.Node {
	return []api.Node{
		{Ino: 1, Kind: dir, Links: 1, Up: 1, Names: []api.Entry{{Name: "a", Ino: 2}, {Name: "b", Ino: 2}, {Name: "d", Ino: 3}, {Name: "f", Ino: 5}}},
		{Ino: 2, Kind: file, Links: 2},
		{Ino: 3, Kind: dir, Links: 1, Up: 1, Names: []api.Entry{{Name: "a name of 24 bytes here!", Ino: 6}, {Name: "ghijklmno", Ino: 4}}},
		{Ino: 4, Kind: dir, Links: 1, Up: 3},
		{Ino: 5, Kind: file, Links: 1, Size: 600, Pages: []int{101, 0, 102}},
		{Ino: 6, Kind: file, Links: 1, Size: 257, Pages: []int{0, 103}},
		{Ino: 9, Kind: file, Size: 1, Pages: []int{104}},
	}
}

// treeWords are the words of its picture, without the sum.
func treeWords() []uint64 {
	return slices.Concat(
		[]uint64{12, 7},
		[]uint64{1, 2, 1, 0, 1, 0, 4, 1, 97, 2, 1, 98, 2, 1, 100, 3, 1, 102, 5},
		[]uint64{2, 1, 2, 0, 0, 0, 0},
		[]uint64{3, 2, 1, 0, 1, 0, 2, 24, 8007511657925189729, 8392847271035805798, 2406455355763618661, 6, 9, 7957135325236127847, 111, 4},
		[]uint64{4, 2, 1, 0, 3, 0, 0},
		[]uint64{5, 1, 1, 600, 0, 3, 0, 101, 0, 102},
		[]uint64{6, 1, 1, 257, 0, 2, 0, 0, 103},
		[]uint64{9, 1, 0, 1, 0, 1, 0, 104},
	)
}

const treeSum uint64 = 5386155279895634850

func stateOf(t *testing.T, nodes []api.Node, last int) *state.State {
	t.Helper()
	s, is := state.Of(nodes, last)
	if !is {
		t.Fatal("these nodes aren't Right")
	}
	return s
}

func tree(t *testing.T) *state.State {
	t.Helper()
	return stateOf(t, treeNodes(), 12)
}

// nobodys are States that nobody made.
func nobodys() []*state.State { return []*state.State{nil, {}} }

func nodesOf(s *state.State) []api.Node {
	var l []api.Node
	for _, n := range s.Nodes() {
		l = append(l, n)
	}
	return l
}

func sameNode(a, b api.Node) bool {
	return a.Ino == b.Ino && a.Kind == b.Kind && a.Links == b.Links && a.Size == b.Size && a.Up == b.Up &&
		slices.Equal(a.Pages, b.Pages) && slices.Equal(a.Names, b.Names)
}

// alike asks for a state of just these nodes.
func alike(t *testing.T, s *state.State, nodes []api.Node, last int) {
	t.Helper()
	if s == nil || !s.Right() || s.Last() != last || !slices.EqualFunc(nodesOf(s), nodes, sameNode) {
		t.Fatal("it isn't like that state:", s.Last(), last, nodesOf(s), nodes)
	}
}

func expectOf(t *testing.T, l []uint64, nodes []api.Node, last int) {
	t.Helper()
	s, err := Of(l)
	if err != api.OK {
		t.Fatal("of words of nodes", nodes, "and Last", last, "it told", err)
	}
	alike(t, s, nodes, last)
}

func expectCorrupt(t *testing.T, l []uint64) {
	t.Helper()
	if s, err := Of(l); s != nil || err != errCorrupt {
		t.Fatal("it must be ErrCorrupt:", l[:min(len(l), 200)], err)
	}
}

// expectByTheWords holds Of against the plain reader, and tells whether there is such a state.
func expectByTheWords(t *testing.T, l []uint64) bool {
	t.Helper()
	nodes, last, is := plainOf(l)
	if is {
		expectOf(t, l, nodes, last)
	} else {
		expectCorrupt(t, l)
	}
	return is
}

// drawnName is one of 1 to 24 bytes that names doesn't have.
func drawnName(next func(int) int, names []api.Entry) string {
	for {
		b := make([]byte, 1+next(24))
		for i := range b {
			b[i] = byte(48 + next(208))
		}
		if !slices.ContainsFunc(names, func(e api.Entry) bool { return e.Name == string(b) }) {
			return string(b)
		}
	}
}

// drawnForest is nodes that are made one by one, each with names in directories that are there.
type drawnForest struct {
	next  func(int) int
	nodes []api.Node
	dirs  []int // places of directories in nodes
	ref   int
}

// enter gives the node a name in some directory, and tells that directory.
func (d *drawnForest) enter(ino int) int {
	in := &d.nodes[d.dirs[d.next(len(d.dirs))]]
	in.Names = append(in.Names, api.Entry{Name: drawnName(d.next, in.Names), Ino: ino})
	return in.Ino
}

func (d *drawnForest) addDir(ino int) {
	d.nodes = append(d.nodes, api.Node{Ino: ino, Kind: dir, Links: 1, Up: d.enter(ino)})
	d.dirs = append(d.dirs, len(d.nodes)-1)
}

func (d *drawnForest) addFile(ino int) {
	n := api.Node{Ino: ino, Kind: file, Links: d.next(4), Size: d.next(1500)}
	if d.next(10) == 0 {
		n.Size = d.next(16385)
	}
	for range (n.Size + 255) / 256 {
		d.ref += 1 + d.next(2)
		n.Pages = append(n.Pages, d.ref*min(1, d.next(4)))
	}
	for range n.Links {
		d.enter(ino)
	}
	d.nodes = append(d.nodes, n)
}

// drawnNodes are those of a state that is Right, and its Last.
func drawnNodes(next func(int) int, most int) ([]api.Node, int) {
	d := &drawnForest{next: next, nodes: []api.Node{{Ino: 1, Kind: dir, Links: 1, Up: 1}}, dirs: []int{0}}
	ino := 1
	for range next(most) {
		ino += 1 + next(3)
		if next(3) == 0 {
			d.addDir(ino)
		} else {
			d.addFile(ino)
		}
	}
	for _, n := range d.nodes {
		slices.SortFunc(n.Names, func(a, b api.Entry) int { return strings.Compare(a.Name, b.Name) })
	}
	return d.nodes, ino + next(3)
}
