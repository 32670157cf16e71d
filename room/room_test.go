package room

import (
	"slices"
	"strings"
	"sync"
	"testing"

	"sump/api"
	"sump/geom"
	"sump/state"
)

// The numbers of the document, written out, so that no constant of the program is held against itself.
const (
	greatest = int(^uint(0) >> 1)
	least    = -greatest - 1
	file     = 1
	dir      = 2
)

// draw is a row of numbers that is the same each time.
func draw(seed uint64) func(below int) int {
	x := seed*2862933555777941757 + 88172645463325252
	return func(below int) int {
		x ^= x << 13
		x ^= x >> 7
		x ^= x << 17
		return int(x >> 20 % uint64(below))
	}
}

func makes(in int, s string, ino, kind int) api.Effect {
	return api.Effect{Kind: 1, Dir: in, Name: s, Ino: ino, Page: kind}
}

func links(in int, s string, ino int) api.Effect {
	return api.Effect{Kind: 2, Dir: in, Name: s, Ino: ino}
}

func unlinks(in int, s string, ino int) api.Effect {
	return api.Effect{Kind: 3, Dir: in, Name: s, Ino: ino}
}

func rmdirs(in int, s string, ino int) api.Effect {
	return api.Effect{Kind: 4, Dir: in, Name: s, Ino: ino}
}

func renames(in int, s string, to int, other string, ino int) api.Effect {
	return api.Effect{Kind: 5, Dir: in, Name: s, To: to, Other: other, Ino: ino}
}

func truncs(ino, size int) api.Effect { return api.Effect{Kind: 6, Ino: ino, Size: size} }

func writes(ino, page, size int) api.Effect {
	return api.Effect{Kind: 7, Ino: ino, Page: page, Size: size, Data: make([]byte, 256)}
}

func drops(ino int) api.Effect { return api.Effect{Kind: 8, Ino: ino} }

// does applies effects that can be, with refs from 1 on.
func does(t *testing.T, s *state.State, l ...api.Effect) {
	t.Helper()
	for i, e := range l {
		ref := 0
		if e.Kind == 7 {
			ref = 1 + i
		}
		if _, err := s.Apply(e, ref); err != 0 {
			t.Fatal(i, err)
		}
	}
}

func after(t *testing.T, l ...api.Effect) *state.State {
	t.Helper()
	s := state.New()
	does(t, s, l...)
	return s
}

// tree has 5 pages, one of them of an orphan, and 67 words.
func tree(t *testing.T) *state.State {
	t.Helper()
	return after(t,
		makes(1, "d", 2, dir), makes(2, "a name of 24 bytes here!", 3, file), makes(1, "f", 4, file), makes(2, "e", 5, dir), makes(1, "o", 6, file),
		writes(3, 2, 700), writes(3, 0, 700), writes(4, 0, 300), writes(4, 1, 300), writes(6, 0, 9),
		links(1, "g", 4), unlinks(1, "o", 6),
	)
}

// hasPages and hasWords count by layer 16's and layer 14's words, from the nodes themselves.
func hasPages(s *state.State) int {
	many := 0
	for _, n := range s.Nodes() {
		for _, ref := range n.Pages {
			if ref != 0 {
				many++
			}
		}
	}
	return many
}

func hasWords(s *state.State) int {
	many := 2
	for _, n := range s.Nodes() {
		many += 7 + len(n.Pages)
		for _, e := range n.Names {
			many += 2 + (len(e.Name)+7)/8
		}
	}
	return many
}

// fitting is a Geom that has just the room that s takes, and so much more.
func fitting(s *state.State, image, data int) api.Geom {
	return api.Geom{Image: hasWords(s) + 1 + image, Data: hasPages(s) + 1 + data}
}

func leastDevice(t *testing.T) api.Geom {
	t.Helper()
	g, is := geom.Of(64)
	if !is {
		t.Fatal("no device of 64 pages")
	}
	return g
}

// nobodys are the states that nobody made.
func nobodys() []*state.State { return []*state.State{nil, {}, new(state.State)} }

// P17.1.

func TestExample(t *testing.T) {
	g := leastDevice(t)
	if !Fits(g, state.New()) {
		t.Error("a new state doesn't fit")
	}
	image, data := Left(g, state.New())
	if image != 127-1-9 || data != 47-1 || Pages(state.New()) != 0 {
		t.Error(image, data)
	}
}

func TestPages(t *testing.T) {
	for _, c := range []struct {
		l    []api.Effect
		want int
	}{
		{nil, 0},
		{[]api.Effect{makes(1, "a", 2, dir)}, 0},
		{[]api.Effect{makes(1, "a", 2, file)}, 0},
		{[]api.Effect{makes(1, "a", 2, file), truncs(2, 16384)}, 0},
		{[]api.Effect{makes(1, "a", 2, file), writes(2, 63, 16384)}, 1},
		{[]api.Effect{makes(1, "a", 2, file), writes(2, 0, 256), writes(2, 0, 256)}, 1},
		{[]api.Effect{makes(1, "a", 2, file), writes(2, 0, 257), writes(2, 1, 257)}, 2},
		{[]api.Effect{makes(1, "a", 2, file), writes(2, 0, 257), writes(2, 1, 257), truncs(2, 256)}, 1},
		{[]api.Effect{makes(1, "a", 2, file), writes(2, 0, 257), unlinks(1, "a", 2)}, 1},
		{[]api.Effect{makes(1, "a", 2, file), writes(2, 0, 257), unlinks(1, "a", 2), drops(2)}, 0},
		{[]api.Effect{makes(1, "a", 2, file), writes(2, 0, 257), links(1, "b", 2)}, 1},
		{[]api.Effect{makes(1, "a", 2, file), makes(1, "b", 3, file), writes(2, 0, 1), writes(3, 0, 1)}, 2},
	} {
		if got := Pages(after(t, c.l...)); got != c.want {
			t.Error(len(c.l), got, c.want)
		}
	}
	if got := Pages(tree(t)); got != 5 {
		t.Error(got)
	}
}

// A like ref at two places is counted twice, since there are two Refs.
func TestPagesOfLikeRefs(t *testing.T) {
	s := after(t, makes(1, "a", 2, file))
	for page := range 3 {
		if _, err := s.Apply(writes(2, page, 768), 7); err != 0 {
			t.Fatal(err)
		}
	}
	for _, ref := range []int{least, -1, greatest} {
		s.Turn(2, 1, 7, ref)
		if got := Pages(s); got != 3 {
			t.Error(ref, got)
		}
		s.Turn(2, 1, ref, 7)
	}
	s.Turn(2, 1, 7, 0)
	if got := Pages(s); got != 2 {
		t.Error(got)
	}
}

func TestLeft(t *testing.T) {
	s := tree(t)
	for _, c := range []struct {
		image, data         int
		leftImage, leftData int
	}{
		{127, 47, 59, 41},
		{68, 6, 0, 0},
		{69, 7, 1, 1},
		{67, 6, -1, 0},
		{68, 5, 0, -1},
		{1, 1, -67, -5},
		{0, 0, -68, -6},
		{-1, -2, -69, -8},
		{greatest, greatest, greatest - 68, greatest - 6},
		{least, 6, least, 0},
		{68, least, 0, least},
		{least + 67, least + 5, least, least},
		{least + 68, least + 6, least, least},
		{least + 69, least + 7, least + 1, least + 1},
	} {
		g := api.Geom{Image: c.image, Data: c.data}
		image, data := Left(g, s)
		if image != c.leftImage || data != c.leftData {
			t.Error(g, image, data)
		}
		if got := Fits(g, s); got != (c.leftImage >= 0 && c.leftData >= 0) {
			t.Error(g, got)
		}
	}
}

func TestFitsAtTheEdges(t *testing.T) {
	for _, s := range []*state.State{state.New(), tree(t), after(t, makes(1, "a", 2, file), writes(2, 5, 16384))} {
		for image := -2; image <= 2; image++ {
			for data := -2; data <= 2; data++ {
				g := fitting(s, image, data)
				if got := Fits(g, s); got != (image >= 0 && data >= 0) {
					t.Error(image, data, got)
				}
				if i, d := Left(g, s); i != image || d != data {
					t.Error(image, data, i, d)
				}
			}
		}
	}
}

// TestNothingElseCounts: of a Geom no more than Image and Data are asked for, also where it is that of no device.
func TestNothingElseCounts(t *testing.T) {
	s := tree(t)
	for _, n := range []int{least, -1, 0, 1, 64, greatest} {
		for _, g := range []api.Geom{{Pages: n}, {Bank: n}, {Log: n}, {Pages: n, Bank: n, Log: n}} {
			for _, more := range []int{-1, 0} {
				g.Image, g.Data = 68+more, 6
				if i, d := Left(g, s); i != more || d != 0 || Fits(g, s) != (more == 0) {
					t.Error(g, i, d)
				}
				want := api.Errno(0)
				if more < 0 {
					want = 28
				}
				if err := Try(g, s, []api.Effect{truncs(3, 700)}); err != want {
					t.Error(g, err)
				}
			}
		}
	}
}

func TestOfAllDevices(t *testing.T) {
	for _, pages := range []int{64, 65, 71, 72, 73, 100, 1000, 1048575, 1048576} {
		g, _ := geom.Of(pages)
		image, data := Left(g, tree(t))
		if image != g.Image-68 || data != g.Data-6 || !Fits(g, tree(t)) {
			t.Error(pages, image, data)
		}
	}
}

func TestNobodys(t *testing.T) {
	for _, s := range nobodys() {
		if Pages(s) != 0 {
			t.Error(Pages(s))
		}
		for _, g := range []api.Geom{{}, {Image: 127, Data: 47}, {Image: 1, Data: 1}, {Image: 1}, {Data: 1}, {Image: least, Data: least}} {
			image, data := Left(g, s)
			if image != max(g.Image, least+1)-1 || data != max(g.Data, least+1)-1 || Fits(g, s) != (g.Image > 0 && g.Data > 0) {
				t.Error(g, image, data, Fits(g, s))
			}
			if err := Try(g, s, nil); err != 0 {
				t.Error(g, err)
			}
			for _, e := range []api.Effect{{}, makes(1, "a", 2, file), truncs(1, 0), makes(1, "", 2, 5)} {
				if err := Try(g, s, []api.Effect{e}); err != 93 {
					t.Error(g, e.Kind, err)
				}
			}
		}
	}
}

// P2: what is looked at stays as it is, and may be looked at by several at once.

func TestNothingIsChanged(t *testing.T) {
	s := tree(t)
	before := nodesOf(s)
	l := []api.Effect{writes(4, 1, 400), makes(1, "n", 7, dir), truncs(3, 0), {}, makes(1, "hidden", 8, file)}[:3:4]
	l[0].Data[9] = 9
	var all sync.WaitGroup
	for range 8 {
		all.Go(func() {
			for _, g := range []api.Geom{{}, {Image: 127, Data: 47}} {
				Try(g, s, l)
				Fits(g, s)
				Left(g, s)
				Pages(s)
			}
		})
	}
	all.Wait()
	if s.Last() != 6 || !slices.EqualFunc(nodesOf(s), before, sameNode) {
		t.Error(nodesOf(s))
	}
	if err := Try(fitting(s, 100, 100), s, l); err != 0 {
		t.Error("what lies behind the list's length was tried:", err)
	}
	if l[0].Data[9] != 9 || len(l[0].Data) != 256 || l[1].Name != "n" || l[:4][3].Kind != 0 {
		t.Error(l)
	}
}

func nodesOf(s *state.State) []api.Node {
	var l []api.Node
	for _, n := range s.Nodes() {
		l = append(l, n)
	}
	return l
}

func sameNode(a, b api.Node) bool {
	return a.Ino == b.Ino && a.Kind == b.Kind && a.Links == b.Links && a.Size == b.Size && a.Up == b.Up &&
		slices.Equal(a.Pages, b.Pages) && slices.Equal(a.Names, b.Names)
}

// P17.3, on drawn trees that have no room left: each effect that takes nothing goes on fitting, by itself and behind others.

func TestWhatTakesNothing(t *testing.T) {
	for seed := range uint64(60) {
		next := draw(seed)
		s := drawnTree(t, next)
		g := fitting(s, 0, 0)
		for range 30 {
			e := drawnLess(next, s)
			err := Try(g, s, []api.Effect{e})
			if err == 28 || !Fits(g, s) {
				t.Fatal(seed, e.Kind, err)
			}
			if _, can := s.Copy().Apply(e, 0); (can == 0) != (err == 0) {
				t.Fatal(seed, e.Kind, err)
			}
			s.Apply(e, 0)
		}
	}
}

func TestWhatTakesNothingInRows(t *testing.T) {
	for seed := range uint64(40) {
		next := draw(100 + seed)
		s := drawnTree(t, next)
		trial := s.Copy()
		var l []api.Effect
		for range 20 {
			e := drawnLess(next, trial)
			if _, err := trial.Apply(e, 0); err == 0 {
				l = append(l, e)
			}
		}
		if err := Try(fitting(s, 0, 0), s, l); err != 0 {
			t.Error(seed, len(l), err)
		}
	}
}

// All that a tree has can be taken away, one by one, till there is Root alone.
func TestAllCanGo(t *testing.T) {
	s := tree(t)
	l := []api.Effect{
		truncs(3, 513), truncs(3, 512), truncs(3, 0), unlinks(2, "a name of 24 bytes here!", 3), drops(3), rmdirs(2, "e", 5), rmdirs(1, "d", 2),
		unlinks(1, "f", 4), unlinks(1, "g", 4), drops(4), truncs(6, 3), drops(6),
	}
	if err := Try(fitting(s, 0, 0), s, l); err != 0 {
		t.Error(err)
	}
	does(t, s, l...)
	if image, data := Left(leastDevice(t), s); image != 117 || data != 46 {
		t.Error(image, data)
	}
}

// drawnTree has up to some 40 nodes.
func drawnTree(t *testing.T, next func(int) int) *state.State {
	t.Helper()
	s := state.New()
	for i := range 80 {
		name := strings.Repeat(string(rune('a'+next(12))), 1+next(24))
		dirs, ino := 1+next(s.Last()), 1+next(s.Last())
		switch next(4) {
		case 0, 1:
			s.Apply(makes(dirs, name, s.Last()+1, 1+next(2)), 0)
		case 2:
			s.Apply(links(dirs, name, ino), 0)
		case 3:
			n, _ := s.Get(ino)
			size := min(16384, max(n.Size, 1+next(3000)))
			s.Apply(writes(ino, next((size+255)/256), size), 1+i)
		}
	}
	return s
}

// drawnLess is an effect that takes nothing, if it can be.
func drawnLess(next func(int) int, s *state.State) api.Effect {
	nodes := nodesOf(s)
	n, in := nodes[next(len(nodes))], nodes[next(len(nodes))]
	if next(4) == 0 {
		return truncs(n.Ino, next(n.Size+1))
	}
	if next(4) == 0 {
		return drops(n.Ino)
	}
	if len(in.Names) == 0 {
		return drops(in.Ino)
	}
	e := in.Names[next(len(in.Names))]
	if next(2) == 0 {
		return unlinks(in.Ino, e.Name, e.Ino)
	}
	return rmdirs(in.Ino, e.Name, e.Ino)
}
