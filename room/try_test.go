package room

import (
	"slices"
	"strings"
	"testing"

	"sump/api"
	"sump/state"
)

// P17.2.

func TestTry(t *testing.T) {
	long := strings.Repeat("n", 24)
	for i, c := range []struct {
		image, data int
		l           []api.Effect
		want        api.Errno
	}{
		{0, 0, nil, 0},
		{-9, -9, nil, 0},
		{-9, -9, []api.Effect{}, 0},
		{0, 0, []api.Effect{truncs(3, 700)}, 0},
		{0, 0, []api.Effect{truncs(3, 0)}, 0},

		// A node has 7 words, a name 2 and its bytes'.
		{9, 0, []api.Effect{makes(1, "n", 7, file)}, 28},
		{10, 0, []api.Effect{makes(1, "n", 7, file)}, 0},
		{10, 0, []api.Effect{makes(1, "n", 7, dir)}, 0},
		{10, 0, []api.Effect{makes(1, "12345678", 7, dir)}, 0},
		{10, 0, []api.Effect{makes(1, "123456789", 7, dir)}, 28},
		{11, 0, []api.Effect{makes(1, long, 7, dir)}, 28},
		{12, 0, []api.Effect{makes(1, long, 7, dir)}, 0},
		{2, 0, []api.Effect{links(1, "n", 4)}, 28},
		{3, 0, []api.Effect{links(1, "n", 4)}, 0},
		{0, 0, []api.Effect{renames(1, "f", 2, "n", 4)}, 0},
		{1, 0, []api.Effect{renames(1, "f", 2, long, 4)}, 28},
		{2, 0, []api.Effect{renames(1, "f", 2, long, 4)}, 0},

		// A page has a word, and a page of data, unless it is a hole.
		{0, 0, []api.Effect{truncs(4, 512)}, 0},
		{0, 0, []api.Effect{truncs(4, 513)}, 28},
		{1, 0, []api.Effect{truncs(4, 513)}, 0},
		{62, 0, []api.Effect{truncs(4, 16384)}, 0},
		{61, 0, []api.Effect{truncs(4, 16384)}, 28},
		{0, 0, []api.Effect{writes(4, 1, 512)}, 0},
		{0, 0, []api.Effect{writes(3, 1, 700)}, 28},
		{0, 1, []api.Effect{writes(3, 1, 700)}, 0},
		{0, 1, []api.Effect{writes(4, 2, 600)}, 28},
		{1, 0, []api.Effect{writes(4, 2, 600)}, 28},
		{1, 1, []api.Effect{writes(4, 2, 600)}, 0},

		// What doesn't fit ahead of them all counts only behind one of them.
		{-1, 0, []api.Effect{truncs(4, 256)}, 0},
		{-2, 0, []api.Effect{truncs(4, 256)}, 28},
		{-9, -1, []api.Effect{drops(6)}, 28},
		{-8, -2, []api.Effect{drops(6)}, 28},
		{-8, -1, []api.Effect{drops(6)}, 0},
		{-2, 0, []api.Effect{truncs(4, 256), truncs(4, 0)}, 28},

		// What can't be.
		{99, 99, []api.Effect{{}}, 93},
		{99, 99, []api.Effect{{Kind: 9, Ino: 3}}, 93},
		{99, 99, []api.Effect{makes(1, "a/b", 7, file)}, 93},
		{99, 99, []api.Effect{makes(1, "n", 8, file)}, 93},
		{99, 99, []api.Effect{makes(1, "f", 7, file)}, 93},
		{99, 99, []api.Effect{links(1, "n", 2)}, 93},
		{99, 99, []api.Effect{unlinks(1, "o", 6)}, 93},
		{99, 99, []api.Effect{rmdirs(1, "d", 2)}, 93},
		{99, 99, []api.Effect{renames(1, "d", 5, "d", 2)}, 93},
		{99, 99, []api.Effect{truncs(4, 16385)}, 93},
		{99, 99, []api.Effect{writes(4, 0, 299)}, 93},
		{99, 99, []api.Effect{{Kind: 7, Ino: 4, Size: 300}}, 93},
		{99, 99, []api.Effect{drops(4)}, 93},
	} {
		s := tree(t)
		if err := Try(fitting(s, c.image, c.data), s, c.l); err != c.want {
			t.Error(i, c.image, c.data, err, c.want)
		}
	}
}

func TestTryInRows(t *testing.T) {
	for i, c := range []struct {
		image, data int
		l           []api.Effect
		want        api.Errno
	}{
		// Each goes by what those ahead of it did.
		{20, 0, []api.Effect{makes(1, "n", 7, dir), makes(7, "n", 8, file)}, 0},
		{19, 0, []api.Effect{makes(1, "n", 7, dir), makes(7, "n", 8, file)}, 28},
		{99, 99, []api.Effect{makes(7, "n", 8, file), makes(1, "n", 7, dir)}, 93},
		{99, 99, []api.Effect{makes(1, "n", 7, dir), makes(1, "n", 8, file)}, 93},
		{99, 99, []api.Effect{makes(1, "n", 7, dir), makes(1, "m", 7, dir)}, 93},
		{0, 0, []api.Effect{drops(6), makes(1, "m", 7, dir)}, 28},
		{2, 0, []api.Effect{drops(6), makes(1, "m", 7, dir)}, 0},
		{0, 0, []api.Effect{drops(6), writes(3, 1, 700)}, 0},
		{0, 0, []api.Effect{drops(6), drops(6)}, 93},
		{0, 0, []api.Effect{drops(6), truncs(6, 0)}, 93},
		{0, 0, []api.Effect{truncs(4, 200), writes(4, 0, 200)}, 0},
		{0, 0, []api.Effect{truncs(4, 200), writes(4, 0, 199)}, 93},

		// It must fit behind each, also where it does so behind the last one.
		{9, 0, []api.Effect{makes(1, "n", 7, dir), rmdirs(1, "n", 7)}, 28},
		{10, 0, []api.Effect{makes(1, "n", 7, dir), rmdirs(1, "n", 7)}, 0},
		{0, 0, []api.Effect{writes(3, 1, 700), truncs(3, 0)}, 28},
		{0, 0, []api.Effect{truncs(3, 0), truncs(3, 700)}, 0},
		{0, 0, []api.Effect{truncs(4, 513), truncs(4, 512)}, 28},
		{-1, 0, []api.Effect{truncs(4, 512), truncs(4, 256)}, 28},

		// What can't be is told ahead of what doesn't fit, wherever they are.
		{0, 0, []api.Effect{makes(1, "n", 7, dir), drops(4)}, 93},
		{0, 0, []api.Effect{drops(4), makes(1, "n", 7, dir)}, 93},
		{-99, -99, []api.Effect{truncs(4, 0), truncs(4, 0), {}}, 93},
		{-99, -99, []api.Effect{{}, truncs(4, 0)}, 93},
		{-99, -99, []api.Effect{truncs(4, 0), truncs(4, 0)}, 28},

		// Writes have a page each, but at one place one page alone.
		{1, 2, []api.Effect{writes(3, 1, 700), writes(3, 3, 800), writes(4, 1, 512)}, 0},
		{1, 1, []api.Effect{writes(3, 1, 700), writes(3, 3, 800), writes(4, 1, 512)}, 28},
		{0, 1, []api.Effect{writes(3, 1, 700), writes(3, 1, 710), writes(3, 1, 768)}, 0},
	} {
		s := tree(t)
		if err := Try(fitting(s, c.image, c.data), s, c.l); err != c.want {
			t.Error(i, c.image, c.data, err, c.want)
		}
	}
}

// A device's pages of data but one may be written; the one that is kept, not.
func TestTryTheLeastDeviceFull(t *testing.T) {
	g := leastDevice(t)
	s := after(t, makes(1, "a", 2, file))
	var l []api.Effect
	for page := range 46 {
		l = append(l, writes(2, page, 46*256))
	}
	if err := Try(g, s, l); err != 0 {
		t.Error(err)
	}
	if err := Try(g, s, append(l, writes(2, 46, 47*256))); err != 28 {
		t.Error(err)
	}
	if err := Try(g, s, append(l, writes(2, 45, 46*256), truncs(2, 16384))); err != 0 {
		t.Error(err)
	}
	s = state.New()
	l = nil
	for ino := 2; ino <= 12; ino++ {
		l = append(l, makes(1, string(rune('a'+ino)), ino, file))
	}
	if err := Try(g, s, l); err != 0 {
		t.Error(err)
	}
	if err := Try(g, s, append(l, makes(1, "z", 13, file))); err != 28 {
		t.Error(err)
	}
}

// Refs of trials: above 0, since 0 would be a hole, and none that is there, whatever is there.

func TestRefsOfTrials(t *testing.T) {
	for _, there := range [][]int{nil, {1}, {2}, {1, 2, 3}, {3, 2, 1}, {4, 2, 6, 1}, {greatest, 1}, {greatest, greatest - 1}, {least, -1, 2}, {2, 2, 2, 3}} {
		s := after(t, makes(1, "a", 2, file))
		for page, ref := range there {
			s.Apply(writes(2, page, 16384), ref)
		}
		ref := refs(s)
		used := slices.Clone(there)
		for range 9 {
			if got := ref(drops(2)); got != 0 {
				t.Error(there, got)
			}
			got := ref(writes(2, 0, 16384))
			if got < 1 || slices.Contains(used, got) {
				t.Error(there, used, got)
			}
			used = append(used, got)
		}
	}
}

// plainTry is P17.2 word by word, with refs far from those that are there.
func plainTry(g api.Geom, s *state.State, l []api.Effect) api.Errno {
	one := s.Copy()
	for i, e := range l {
		if _, err := one.Apply(e, 1000000+i); err != 0 {
			return 93
		}
	}
	one = s.Copy()
	for i, e := range l {
		one.Apply(e, 1000000+i)
		if hasWords(one) > g.Image-1 || hasPages(one) > g.Data-1 {
			return 28
		}
	}
	return 0
}

// drawnEffect can often be done, and takes something or gives it back.
func drawnEffect(next func(int) int, s *state.State) api.Effect {
	nodes := nodesOf(s)
	n, in := nodes[next(len(nodes))], nodes[next(len(nodes))]
	name := strings.Repeat(string(rune('a'+next(12))), 1+next(24))
	switch next(6) {
	case 0:
		return makes(in.Ino, name, s.Last()+1, 1+next(2))
	case 1:
		return links(in.Ino, name, n.Ino)
	case 2:
		size := min(16384, n.Size+next(300)+1)
		return writes(n.Ino, next((size+255)/256), size)
	case 3:
		return truncs(n.Ino, next(3000))
	case 4:
		if len(in.Names) > 0 {
			e := in.Names[next(len(in.Names))]
			return renames(in.Ino, e.Name, 1+next(s.Last()), name, e.Ino)
		}
	}
	return drawnLess(next, s)
}

func TestDrawnTries(t *testing.T) {
	many := map[api.Errno]int{}
	for seed := range uint64(3000) {
		next := draw(1000 + seed)
		s := drawnTree(t, next)
		trial := s.Copy()
		var l []api.Effect
		for len(l) < next(8) {
			e := drawnEffect(next, trial)
			if _, err := trial.Apply(e, 500+len(l)); err == 0 || next(40) == 0 {
				l = append(l, e)
			}
		}
		g := fitting(s, next(40)-5, next(5)-1)
		want := plainTry(g, s, l)
		if err := Try(g, s, l); err != want {
			t.Fatal(seed, len(l), err, want)
		}
		many[want]++
	}
	if many[0] < 300 || many[28] < 300 || many[93] < 50 {
		t.Error("too few of a kind:", many)
	}
}
