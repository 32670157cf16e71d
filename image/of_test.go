package image

import (
	"slices"
	"strconv"
	"strings"
	"sync"
	"testing"

	"sump/api"
	"sump/state"
)

// P18.2: what is a Put.

func TestOf(t *testing.T) {
	expectOf(t, []uint64{1, 1, 1, 2, 1, 0, 1, 0, 0, 17805852077014157880}, []api.Node{{Ino: 1, Kind: dir, Links: 1, Up: 1}}, 1)
	expectOf(t, append(treeWords(), treeSum), treeNodes(), 12)
}

// The sum may be any word: it is held against what it must be, and not read.
func TestOfAnySum(t *testing.T) {
	greatOnes := 0
	for ref := 200; ref < 260; ref++ {
		nodes := treeNodes()
		nodes[4].Pages[0] = ref
		l := plainPut(nodes, 12)
		expectOf(t, l, nodes, 12)
		if l[len(l)-1] >= 1<<63 {
			greatOnes++
		}
	}
	if greatOnes < 10 || greatOnes > 50 {
		t.Error(greatOnes)
	}
}

// P18.2: what is none.

func TestOfNothing(t *testing.T) {
	expectCorrupt(t, nil)
	expectCorrupt(t, []uint64{})
	expectCorrupt(t, sealed(nil))
	for _, s := range nobodys() {
		expectCorrupt(t, Put(s))
	}
	expectCorrupt(t, plainPut(nil, 0))
	expectCorrupt(t, plainPut(nil, 1))
}

func TestOfWordsThatAreMissing(t *testing.T) {
	own := treeWords()
	all := sealed(own)
	for n := range all {
		expectCorrupt(t, all[:n])
		expectCorrupt(t, all[len(all)-n:])
	}
	for n := range own {
		expectCorrupt(t, sealed(own[:n]))
		expectCorrupt(t, sealed(own[1+n:]))
		expectByTheWords(t, sealed(slices.Delete(slices.Clone(own), n, n+1)))
	}
}

func TestOfWordsThatAreTooMany(t *testing.T) {
	own := treeWords()
	for _, w := range []uint64{0, 1, 9, treeSum, 1<<64 - 1} {
		for n := range own {
			expectByTheWords(t, sealed(slices.Insert(slices.Clone(own), n, w)))
		}
		expectCorrupt(t, sealed(append(slices.Clone(own), w)))
		expectCorrupt(t, append(sealed(own), w))
	}
	expectCorrupt(t, sealed(sealed(own)))
	expectCorrupt(t, append(sealed(own), sealed(own)...))
	expectCorrupt(t, sealed(append(slices.Clone(own), own...)))
}

// turned are words that aren't w.
func turned(w uint64) []uint64 {
	l := []uint64{0, 1, 2, 3, 4, 5, 6, 8, 9, 10, 12, 16, 17, 24, 25, 63, 64, 65, 101, 102, 200, 256, 257, 512, 513, 599, 601, 768, 769, 16384, 16385,
		65536, 65537, 1 << 20, 1<<20 + 1, 1 << 31, 1 << 32, 1<<62 - 1, 1 << 62, 1<<62 + 1, 1<<63 - 1, 1 << 63, 1<<63 + 1, 1<<64 - 1,
		w + 1, w - 1, w ^ 1<<33, w ^ 1<<63, w + 1<<32, w << 8, w | 97<<56}
	return slices.DeleteFunc(l, func(x uint64) bool { return x == w })
}

func TestOfOneWordThatIsAnother(t *testing.T) {
	all := append(treeWords(), treeSum)
	for i, w := range all {
		for _, x := range turned(w) {
			l := slices.Clone(all)
			l[i] = x
			expectCorrupt(t, l)
		}
	}
}

// With a mended sum it is what the words say: often nothing that may be, but now and then another state.
func TestOfOneWordThatIsAnotherWithItsSum(t *testing.T) {
	told := 0
	own := treeWords()
	for i, w := range own {
		for _, x := range turned(w) {
			l := slices.Clone(own)
			l[i] = x
			if expectByTheWords(t, sealed(l)) {
				told++
			}
		}
	}
	if told < 100 || told > len(own)*len(turned(0))/2 {
		t.Error("so many were states:", told)
	}
}

// notRight changes the nodes of the tree, or Last, so that they aren't Right.
var notRight = []struct {
	what   string
	change func(l []api.Node, last *int) []api.Node
}{
	{"numbers fall", func(l []api.Node, _ *int) []api.Node { l[3], l[4] = l[4], l[3]; return l }},
	{"a number is twice", func(l []api.Node, _ *int) []api.Node { return slices.Insert(l, 4, l[3]) }},
	{"there is no Root", func(l []api.Node, _ *int) []api.Node { return l[1:] }},
	{"Root is a file", func(l []api.Node, _ *int) []api.Node { l[0].Kind = file; return l }},
	{"Root is in another", func(l []api.Node, _ *int) []api.Node { l[0].Up = 3; return l }},
	{"Root has a name", func(l []api.Node, _ *int) []api.Node { l[3].Names = []api.Entry{{Name: "r", Ino: 1}}; return l }},
	{"a node is missing", func(l []api.Node, _ *int) []api.Node { return slices.Delete(l, 3, 4) }},
	{"a number is above Last", func(l []api.Node, last *int) []api.Node { *last = 8; return l }},
	{"Last is 0", func(l []api.Node, last *int) []api.Node { *last = 0; return l }},
	{"Last is below 0", func(l []api.Node, last *int) []api.Node { *last = -1; return l }},
	{"Last is the least", func(l []api.Node, last *int) []api.Node { *last = least; return l }},
	{"a number is 0", func(l []api.Node, _ *int) []api.Node { return slices.Insert(l, 0, api.Node{Kind: file}) }},
	{"a number is below 0", func(l []api.Node, _ *int) []api.Node { return slices.Insert(l, 0, api.Node{Ino: -1, Kind: file}) }},
	{"a number is too great", func(l []api.Node, last *int) []api.Node {
		*last = mostIno + 1
		return append(l, api.Node{Ino: mostIno + 1, Kind: file})
	}},
	{"a kind is none", func(l []api.Node, _ *int) []api.Node { l[1].Kind = 3; return l }},
	{"a kind is 0", func(l []api.Node, _ *int) []api.Node { l[6].Kind = 0; return l }},
	{"a link too many", func(l []api.Node, _ *int) []api.Node { l[1].Links = 3; return l }},
	{"a link too few", func(l []api.Node, _ *int) []api.Node { l[1].Links = 1; return l }},
	{"an orphan has a link", func(l []api.Node, _ *int) []api.Node { l[6].Links = 1; return l }},
	{"links below 0", func(l []api.Node, _ *int) []api.Node { l[6].Links = -1; return l }},
	{"a directory has two links", func(l []api.Node, _ *int) []api.Node { l[3].Links = 2; return l }},
	{"a directory has no name", func(l []api.Node, _ *int) []api.Node { l[2].Names = l[2].Names[:1]; return l }},
	{"a directory has two names", func(l []api.Node, _ *int) []api.Node {
		l[2].Names = append(l[2].Names, api.Entry{Name: "z", Ino: 4})
		return l
	}},
	{"a directory isn't in its Up", func(l []api.Node, _ *int) []api.Node { l[3].Up = 1; return l }},
	{"a file is in one", func(l []api.Node, _ *int) []api.Node { l[4].Up = 1; return l }},
	{"two directories are in each other", func(l []api.Node, last *int) []api.Node {
		*last = 21
		return append(l,
			api.Node{Ino: 20, Kind: dir, Links: 1, Up: 21, Names: []api.Entry{{Name: "x", Ino: 21}}},
			api.Node{Ino: 21, Kind: dir, Links: 1, Up: 20, Names: []api.Entry{{Name: "x", Ino: 20}}})
	}},
	{"a directory is in itself", func(l []api.Node, _ *int) []api.Node {
		return append(l, api.Node{Ino: 11, Kind: dir, Links: 1, Up: 11, Names: []api.Entry{{Name: "x", Ino: 11}}})
	}},
	{"a directory has a size", func(l []api.Node, _ *int) []api.Node { l[3].Size = 1; return l }},
	{"a directory has pages", func(l []api.Node, _ *int) []api.Node { l[3].Pages = []int{9}; return l }},
	{"a file has names", func(l []api.Node, _ *int) []api.Node { l[6].Names = []api.Entry{{Name: "x", Ino: 2}}; return l }},
	{"a size is too great", func(l []api.Node, _ *int) []api.Node { l[1].Size, l[1].Pages = 16385, make([]int, 65); return l }},
	{"a size needs more pages", func(l []api.Node, _ *int) []api.Node { l[4].Size = 769; return l }},
	{"a size needs fewer pages", func(l []api.Node, _ *int) []api.Node { l[4].Size = 512; return l }},
	{"a size is below 0", func(l []api.Node, _ *int) []api.Node { l[1].Size = -1; return l }},
	{"two refs of a file are alike", func(l []api.Node, _ *int) []api.Node { l[4].Pages[2] = 101; return l }},
	{"two files have a ref", func(l []api.Node, _ *int) []api.Node { l[5].Pages[1] = 101; return l }},
	{"an orphan has another's ref", func(l []api.Node, _ *int) []api.Node { l[6].Pages[0] = 103; return l }},
	{"names fall", func(l []api.Node, _ *int) []api.Node { slices.Reverse(l[0].Names); return l }},
	{"a name is twice", func(l []api.Node, _ *int) []api.Node { l[0].Names[1].Name = "a"; return l }},
	{"a name is of nothing", func(l []api.Node, _ *int) []api.Node { l[0].Names[3].Ino = 7; return l }},
	{"a name is of 0", func(l []api.Node, _ *int) []api.Node { l[0].Names[3].Ino = 0; return l }},
	{"a name is of what is below 0", func(l []api.Node, _ *int) []api.Node { l[0].Names[3].Ino = -5; return l }},
	{"a name is nothing", func(l []api.Node, _ *int) []api.Node { l[0].Names[0].Name = ""; return l }},
	{"a name is .", func(l []api.Node, _ *int) []api.Node { l[0].Names[0].Name = "."; return l }},
	{"a name is ..", func(l []api.Node, _ *int) []api.Node { l[0].Names[0].Name = ".."; return l }},
	{"a name has a slash", func(l []api.Node, _ *int) []api.Node { l[0].Names[0].Name = "a/a"; return l }},
	{"a name has a 0", func(l []api.Node, _ *int) []api.Node { l[0].Names[0].Name = "a\x00"; return l }},
	{"a name is too long", func(l []api.Node, _ *int) []api.Node { l[0].Names[3].Name = strings.Repeat("f", 25); return l }},
	{"a name is far too long", func(l []api.Node, _ *int) []api.Node { l[0].Names[3].Name = strings.Repeat("f", 1000); return l }},
}

func TestOfWhatIsNotRight(t *testing.T) {
	for _, c := range notRight {
		last := 12
		nodes := c.change(treeNodes(), &last)
		if _, is := state.Of(nodes, last); is {
			t.Error("it is Right:", c.what)
		}
		if s, err := Of(plainPut(nodes, last)); s != nil || err != errCorrupt {
			t.Error(c.what, err)
		}
	}
}

// A name is read just if its words are those that it would have: no bit is set behind its end.
func TestOfNamesWithMoreThanTheirBytes(t *testing.T) {
	l := treeWords()
	for _, at := range []int{10, 42} { // the word of "a", the last one of a name of 9 bytes
		for bit := range 64 {
			turned := slices.Clone(l)
			turned[at] ^= 1 << bit
			if is := expectByTheWords(t, sealed(turned)); is && bit >= 8 {
				t.Error(at, bit)
			}
		}
	}
}

func TestOfEachLengthOfANameThatIsTold(t *testing.T) {
	for n := range uint64(200) {
		l := treeWords()
		l[35] = n // of a name of 24 bytes
		if is := expectByTheWords(t, sealed(l)); is != (n == 24) {
			t.Error(n, is)
		}
	}
}

// P18.2: how many are read, at most.

func fileName(i int) string { return "f" + strconv.Itoa(1000000+i) }

// manyNodes has so many, with at most 2^16 names of each: all but the last ones are in Root.
func manyNodes(many int) []api.Node {
	nodes := []api.Node{{Ino: 1, Kind: dir, Links: 1, Up: 1}, {Ino: 2, Kind: dir, Links: 1, Up: 1}}
	nodes[0].Names = []api.Entry{{Name: "d", Ino: 2}}
	for i := 2; i < many; i++ {
		in := &nodes[0]
		if i > 60000 {
			in = &nodes[1]
		}
		in.Names = append(in.Names, api.Entry{Name: fileName(i), Ino: i + 1})
		nodes = append(nodes, api.Node{Ino: i + 1, Kind: file, Links: 1})
	}
	return nodes
}

// manyNames has so many in Root, of files that have up to 16 each.
func manyNames(many int) []api.Node {
	nodes := []api.Node{{Ino: 1, Kind: dir, Links: 1, Up: 1}}
	for i := range many {
		if i%16 == 0 {
			nodes = append(nodes, api.Node{Ino: 2 + i/16, Kind: file})
		}
		nodes[0].Names = append(nodes[0].Names, api.Entry{Name: fileName(i), Ino: 2 + i/16})
		nodes[len(nodes)-1].Links++
	}
	return nodes
}

func TestOfTheMostNodes(t *testing.T) {
	for _, c := range []struct {
		nodes []api.Node
		is    bool
	}{
		{manyNodes(65535), true}, {manyNodes(65536), true}, {manyNodes(65537), false}, {manyNodes(70000), false},
		{manyNames(65535), true}, {manyNames(65536), true}, {manyNames(65537), false}, {manyNames(70000), false},
	} {
		s := stateOf(t, c.nodes, mostIno)
		l := Put(s)
		if !slices.Equal(l, plainPut(c.nodes, mostIno)) || Need(s) != len(l) {
			t.Fatal(len(c.nodes))
		}
		if c.is {
			expectOf(t, l, c.nodes, mostIno)
		} else {
			expectCorrupt(t, l)
		}
	}
}

func TestOfTheMostPages(t *testing.T) {
	for many := 60; many <= 70; many++ {
		nodes := []api.Node{{Ino: 1, Kind: dir, Links: 1, Up: 1}, {Ino: 2, Kind: file, Size: 256 * many}}
		for i := range many {
			nodes[1].Pages = append(nodes[1].Pages, i+1)
		}
		if many <= 64 {
			expectOf(t, plainPut(nodes, 2), nodes, 2)
		} else {
			expectCorrupt(t, plainPut(nodes, 2))
		}
	}
}

// How many there are is only claimed: no room is made, and no time taken, for what isn't there.
func TestOfClaimsThatAreTooGreat(t *testing.T) {
	for _, w := range []uint64{7, 64, 65, 65535, 65536, 65537, 1 << 31, 1 << 32, 1<<32 + 1, 1 << 60, 1 << 62, 1<<63 - 1, 1 << 63, 1<<64 - 1} {
		for _, l := range [][]uint64{
			{1, w},
			{1, w, 1, 2, 1, 0, 1, 0, 0},
			{1, 1, 1, 2, 1, 0, 1, w, 0},
			{1, 1, 1, 2, 1, 0, 1, 0, w},
			{1, 1, 1, 2, 1, 0, 1, w, w},
			{1, 1, 1, 2, 1, 0, 1, 0, 1, w},
			{1, 1, 1, 2, 1, 0, 1, 0, 1, w, 97, 2},
		} {
			expectCorrupt(t, sealed(l))
		}
	}
}

// P1: any words.

func TestOfDrawnWords(t *testing.T) {
	next := draw(7)
	for range 20000 {
		l := []uint64{1, 1, 1, 2, 1, 0, 1, 0, 0}[:next(10)]
		l = slices.Clone(l)
		for range next(12) {
			w := uint64(next(4))
			if next(20) == 0 {
				w = uint64(next(1<<40)) << next(24)
			}
			l = append(l, w)
		}
		expectByTheWords(t, sealed(l))
		expectByTheWords(t, append(l, uint64(next(1<<40))))
	}
}

// changed is l with a few words that are other ones, gone, new, or elsewhere.
func changed(next func(int) int, l []uint64) []uint64 {
	l = slices.Clone(l)
	for range 1 + next(2) {
		i, j := next(len(l)), next(len(l))
		switch next(5) {
		case 0:
			l[i] = uint64(next(30))
		case 1:
			l[i], l[j] = l[j], l[i]
		case 2:
			l = slices.Insert(l, i, l[j])
		case 3:
			l = slices.Delete(l, i, i+1)
		case 4:
			l[i] ^= 1 << next(64)
		}
	}
	return l
}

func TestOfDrawnChanges(t *testing.T) {
	told := 0
	for seed := range uint64(400) {
		next := draw(5000 + seed)
		nodes, last := drawnNodes(next, 12)
		l := plainPut(nodes, last)
		for range 40 {
			own := changed(next, l[:len(l)-1])
			if expectByTheWords(t, sealed(own)) {
				told++
			}
		}
	}
	if told < 100 {
		t.Error("too few were states:", told)
	}
}

// P18.3.

func TestThereAndBack(t *testing.T) {
	alikeBack := func(s *state.State) {
		t.Helper()
		expectOf(t, Put(s), nodesOf(s), s.Last())
	}
	alikeBack(state.New())
	alikeBack(tree(t))
	for seed := range uint64(300) {
		nodes, last := drawnNodes(draw(9000+seed), 60)
		alikeBack(stateOf(t, nodes, last))
	}
}

// Nothing bounds refs from above.
func TestThereAndBackOfGreatRefs(t *testing.T) {
	for _, ref := range []int{1, 2, 46, 47, 1 << 20, 1<<20 + 1, 1 << 31, 1 << 32, 1<<62 - 1, 1 << 62, 1<<62 + 1, 1<<63 - 2, greatest} {
		s, nodes := tree(t), treeNodes()
		s.Turn(5, 2, 102, ref)
		nodes[4].Pages[2] = ref
		expectOf(t, Put(s), nodes, 12)
	}
}

func TestThereAndBackOfGreatLasts(t *testing.T) {
	for _, last := range []int{9, 10, mostIno - 1, mostIno, mostIno + 1, 1 << 31, 1<<62 - 1, 1 << 62, 1<<62 + 1, greatest - 1, greatest} {
		expectOf(t, Put(stateOf(t, treeNodes(), last)), treeNodes(), last)
	}
}

func TestThereAndBackOfTheGreatestNumbers(t *testing.T) {
	nodes := []api.Node{
		{Ino: 1, Kind: dir, Links: 1, Up: 1, Names: []api.Entry{{Name: "d", Ino: mostIno - 1}}},
		{Ino: mostIno - 1, Kind: dir, Links: 1, Up: 1},
		{Ino: mostIno, Kind: file, Links: 16, Size: 16384},
	}
	for i := range 64 {
		nodes[2].Pages = append(nodes[2].Pages, mostIno-i)
	}
	for i := range 16 {
		nodes[1].Names = append(nodes[1].Names, api.Entry{Name: strings.Repeat("\xff", 9+i), Ino: mostIno})
	}
	expectOf(t, Put(stateOf(t, nodes, mostIno)), nodes, mostIno)
}

// Refs below 0, and like ones, aren't told, wherever they are.
func TestNoWayBack(t *testing.T) {
	for _, ref := range []int{-1, -2, least, least + 1, -1 << 62, 101, 103, 104} {
		s := tree(t)
		s.Turn(5, 2, 102, ref)
		expectCorrupt(t, Put(s))
		s.Turn(5, 2, ref, 102)
		expectOf(t, Put(s), treeNodes(), 12)
	}
}

// P2: what is told goes its own way, and the words stay as they are.

func TestOfSharesNothing(t *testing.T) {
	room := append(append(treeWords(), treeSum), 7, 8, 9)
	l := room[:len(room)-3]
	var all sync.WaitGroup
	for range 8 {
		all.Go(func() {
			s, err := Of(l)
			if err != api.OK {
				t.Error(err)
				return
			}
			s.Turn(5, 0, 101, 900)
			s.Apply(api.Effect{Kind: 1, Dir: 1, Name: "new", Ino: 13, Page: file}, 0)
		})
	}
	all.Wait()
	if want := append(append(treeWords(), treeSum), 7, 8, 9); !slices.Equal(room, want) {
		t.Error(room)
	}
	s, _ := Of(l)
	clear(room)
	alike(t, s, treeNodes(), 12)
}
