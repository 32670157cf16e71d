package call

import (
	"bytes"
	"slices"
	"strings"
	"sync"
	"testing"

	"sump/api"
	"sump/effect"
	"sump/geom"
	"sump/pmem"
	"sump/store"
	"sump/view"
)

// The chapter's error, kinds and limits, by their numbers.
const (
	ok        api.Errno = 0
	errInval  api.Errno = 22
	kOpen               = 1
	kClose              = 2
	kRead               = 3
	kWrite              = 4
	kPread              = 5
	kPwrite             = 6
	kSeek               = 7
	kFsync              = 8
	kSync               = 9
	kMkdir              = 10
	kRmdir              = 11
	kLink               = 12
	kUnlink             = 13
	kRename             = 14
	kTruncate           = 15
	kStat               = 16
	kList               = 17
	greatest            = int(^uint(0) >> 1)
	least               = -greatest - 1
)

// anyKinds are all that there are, and numbers of none around them and away from them.
var anyKinds = []int{
	1, 2, 3, 4, 5, 6, 7, 8, 9, 10, 11, 12, 13, 14, 15, 16, 17,
	0, -1, -2, -17, 18, 19, 20, 31, 32, 33, 100, 1<<8 + kOpen, 1<<16 + kWrite, 1<<32 + kTruncate, 1 << 32, -1 << 32, least, least + 1, greatest,
}

// anyNumbers are those at the edges of what a call may be asked with, and away from them.
var anyNumbers = []int{
	0, 1, 2, 3, 4, 5, 7, 8, 15, 16, 17, 30, 31, 32, 33, 48, 63, 64, 255, 256, 257, 1000, 1023, 1024, 1025, 2048, 16383, 16384, 16385,
	1 << 16, 1<<31 - 1, 1 << 31, 1 << 32, 1<<32 + 1, greatest - 1, greatest, -1, -2, -16, -31, -32, -1024, -1 << 32, least, least + 1,
}

// anyLengths are those of Data, at the edges and away from them.
var anyLengths = []int{0, 1, 2, 31, 255, 256, 257, 511, 512, 513, 767, 768, 769, 1000, 1023, 1024, 1025, 1026, 1279, 1280, 1281, 2048, 4096, 16384, 16385, 1 << 17}

func data(n int) []byte { return bytes.Repeat([]byte{7}, n) }

// draw is a row of numbers that is the same each time.
func draw(seed uint64) func(below int) int {
	x := seed*2862933555777941757 + 88172645463325252
	return func(below int) int {
		x ^= x << 13
		x ^= x >> 7
		x ^= x << 17
		return int(x >> 20 % uint64(below))
	}
}

// drawn is any call, often one whose numbers are at the edges.
func drawn(next func(int) int) api.Call {
	number := func() int { return anyNumbers[next(len(anyNumbers))] }
	return api.Call{
		Kind: anyKinds[next(len(anyKinds))], Fd: number(), Flags: number(), N: number(), Off: number(),
		Path: strings.Repeat("/a", next(3)), Other: strings.Repeat("b", next(3)), Data: data(anyLengths[next(17)]),
	}
}

// P25.1: Check, by the chapter's words one by one.

func oneOf(kind int, kinds ...int) bool { return slices.Contains(kinds, kind) }

func plainCheck(c api.Call) api.Errno {
	wrong := []bool{
		c.Kind < 1 || c.Kind > 17,
		c.Kind == kOpen && (c.Flags < 0 || c.Flags > 31),
		oneOf(c.Kind, kRead, kPread) && (c.N < 0 || c.N > 1024),
		c.Kind == kTruncate && c.N < 0,
		oneOf(c.Kind, kPread, kPwrite, kSeek) && c.Off < 0,
		oneOf(c.Kind, kWrite, kPwrite) && len(c.Data) > 1024,
	}
	if slices.Contains(wrong, true) {
		return errInval
	}
	return ok
}

func TestCheckOfKinds(t *testing.T) {
	for kind := -300; kind <= 300; kind++ {
		want := errInval
		if kind >= 1 && kind <= 17 {
			want = ok
		}
		if got := Check(api.Call{Kind: kind}); got != want {
			t.Error(kind, got, "not", want)
		}
	}
	for _, kind := range anyKinds {
		if got := Check(api.Call{Kind: kind}); got != plainCheck(api.Call{Kind: kind}) {
			t.Error(kind, got)
		}
	}
	if got := Check(api.Call{}); got != errInval {
		t.Error("the zero one", got)
	}
}

func TestCheck(t *testing.T) {
	for _, c := range []struct {
		name string
		c    api.Call
		want api.Errno
	}{
		{"open", api.Call{Kind: kOpen, Path: "/a"}, ok},
		{"open, all flags", api.Call{Kind: kOpen, Flags: 31}, ok},
		{"open, one more", api.Call{Kind: kOpen, Flags: 32}, errInval},
		{"open, one beside them", api.Call{Kind: kOpen, Flags: 33}, errInval},
		{"open, below 0", api.Call{Kind: kOpen, Flags: -1}, errInval},
		{"open, only Flags", api.Call{Kind: kOpen, Fd: -1, N: -1, Off: -1, Data: data(1025)}, ok},
		{"close of no place", api.Call{Kind: kClose, Fd: -1}, ok},
		{"read of none", api.Call{Kind: kRead}, ok},
		{"read of the most", api.Call{Kind: kRead, N: 1024}, ok},
		{"read of one more", api.Call{Kind: kRead, N: 1025}, errInval},
		{"read below 0", api.Call{Kind: kRead, N: -1}, errInval},
		{"read has no Off", api.Call{Kind: kRead, N: 1, Off: -1}, ok},
		{"pread of the most", api.Call{Kind: kPread, N: 1024, Off: 0}, ok},
		{"pread of one more", api.Call{Kind: kPread, N: 1025}, errInval},
		{"pread below 0", api.Call{Kind: kPread, N: -1}, errInval},
		{"pread ahead of 0", api.Call{Kind: kPread, N: 1, Off: -1}, errInval},
		{"pread far behind", api.Call{Kind: kPread, N: 1, Off: greatest}, ok},
		{"write of none", api.Call{Kind: kWrite}, ok},
		{"write of the most", api.Call{Kind: kWrite, Data: data(1024)}, ok},
		{"write of one more", api.Call{Kind: kWrite, Data: data(1025)}, errInval},
		{"write has neither N nor Off", api.Call{Kind: kWrite, N: -1, Off: -1, Data: data(1)}, ok},
		{"pwrite of the most", api.Call{Kind: kPwrite, Data: data(1024)}, ok},
		{"pwrite of one more", api.Call{Kind: kPwrite, Data: data(1025)}, errInval},
		{"pwrite ahead of 0", api.Call{Kind: kPwrite, Off: -1, Data: data(1)}, errInval},
		{"pwrite has no N", api.Call{Kind: kPwrite, N: 1025, Data: data(1)}, ok},
		{"pwrite far behind", api.Call{Kind: kPwrite, Off: greatest, Data: data(1)}, ok},
		{"seek", api.Call{Kind: kSeek, Off: 0}, ok},
		{"seek beyond a file", api.Call{Kind: kSeek, Off: 16385}, ok},
		{"seek ahead of 0", api.Call{Kind: kSeek, Off: -1}, errInval},
		{"truncate to 0", api.Call{Kind: kTruncate, N: 0}, ok},
		{"truncate beyond a file", api.Call{Kind: kTruncate, N: 16385}, ok},
		{"truncate below 0", api.Call{Kind: kTruncate, N: -1}, errInval},
		{"truncate has no Off", api.Call{Kind: kTruncate, Off: -1}, ok},
		{"paths aren't asked about", api.Call{Kind: kMkdir, Path: "a/../\x00", Other: strings.Repeat("x", 121)}, ok},
	} {
		if got := Check(c.c); got != c.want {
			t.Error(c.name, got, "not", c.want)
		}
	}
}

// Each kind, with each number and each length at its edges in one field, and in two at once.
func TestCheckFieldByField(t *testing.T) {
	fields := []func(c *api.Call) *int{
		func(c *api.Call) *int { return &c.Fd },
		func(c *api.Call) *int { return &c.Flags },
		func(c *api.Call) *int { return &c.N },
		func(c *api.Call) *int { return &c.Off },
	}
	bytesOf := map[int][]byte{}
	for _, n := range anyLengths {
		bytesOf[n] = data(n)
	}
	hold := func(c api.Call) {
		if got, want := Check(c), plainCheck(c); got != want {
			t.Fatal(c.Kind, c.Fd, c.Flags, c.N, c.Off, len(c.Data), got, "not", want)
		}
	}
	for _, kind := range anyKinds {
		for _, n := range anyLengths {
			hold(api.Call{Kind: kind, Data: bytesOf[n]})
		}
		for i, first := range fields {
			for _, x := range anyNumbers {
				c := api.Call{Kind: kind}
				*first(&c) = x
				for _, n := range anyLengths {
					c.Data = bytesOf[n]
					hold(c)
				}
				for _, second := range fields[i+1:] {
					for _, y := range anyNumbers {
						c := c
						c.Data = nil
						*second(&c) = y
						hold(c)
					}
				}
			}
		}
	}
}

func TestCheckDrawn(t *testing.T) {
	next, many := draw(1), map[api.Errno]int{}
	for range 20000 {
		c := drawn(next)
		got, want := Check(c), plainCheck(c)
		if got != want {
			t.Fatal(c.Kind, c.Flags, c.N, c.Off, len(c.Data), got, "not", want)
		}
		many[got]++
	}
	if len(many) != 2 || many[ok] < 1000 || many[errInval] < 1000 {
		t.Error("what was drawn tells too little", many)
	}
}

// P25.1: Word and Kind.

const allWords = "open close read write pread pwrite seek fsync sync mkdir rmdir link unlink rename truncate stat list"

func TestWords(t *testing.T) {
	words := strings.Fields(allWords)
	if len(words) != 17 {
		t.Fatal(len(words))
	}
	for i, w := range words {
		if Word(i+1) != w || Kind(w) != i+1 {
			t.Error(i+1, w, Word(i+1), Kind(w))
		}
	}
}

func TestWordOfOthers(t *testing.T) {
	for kind := -300; kind <= 300; kind++ {
		if w := Word(kind); (w == "") != (kind < 1 || kind > 17) {
			t.Error(kind, w)
		}
	}
	for _, kind := range anyKinds {
		if w := Word(kind); (w == "") != (kind < 1 || kind > 17) {
			t.Error(kind, w)
		}
	}
}

func TestKindOfOthers(t *testing.T) {
	others := []string{"", " ", "?", "0", "1", "17", "ok", "lock", "make", "trunc", "drop", "rmdirs", "fsyncs", "\x00", "ä", "\xff", allWords}
	for _, w := range strings.Fields(allWords) {
		others = append(others, strings.ToUpper(w), strings.ToUpper(w[:1])+w[1:], w+" ", " "+w, w+"\x00", w+w, w[:len(w)-1], w+"/")
		if w != "pread" && w != "pwrite" && w != "fsync" && w != "unlink" { // what is left of these is a word, too
			others = append(others, w[1:])
		}
	}
	for _, w := range others {
		if kind := Kind(w); kind != 0 {
			t.Errorf("%q %d", w, kind)
		}
	}
	for _, c := range []struct {
		word string
		kind int
	}{{"pread"[1:], kRead}, {"pwrite"[1:], kWrite}, {"fsync"[1:], kSync}, {"unlink"[2:], kLink}} {
		if kind := Kind(c.word); kind != c.kind {
			t.Error(c, kind)
		}
	}
}

// Each text of few letters, and each word with each of its bytes another one.
func TestKindOfAnyText(t *testing.T) {
	words := strings.Fields(allWords)
	hold := func(s string) {
		if got, want := Kind(s), slices.Index(words, s)+1; got != want {
			t.Fatalf("%q %d, not %d", s, got, want)
		}
	}
	for x := range 256 {
		hold(string([]byte{byte(x)}))
		for y := range 256 {
			hold(string([]byte{byte(x), byte(y)}))
		}
	}
	for _, w := range words {
		for i := range w {
			for x := range 256 {
				b := []byte(w)
				b[i] = byte(x)
				hold(string(b))
			}
		}
	}
}

// P25.2: Fds and Writes.

func TestFdsAndWrites(t *testing.T) {
	for _, kind := range anyKinds {
		byFd := oneOf(kind, kClose, kRead, kWrite, kPread, kPwrite, kSeek, kFsync)
		writes := oneOf(kind, kWrite, kPwrite)
		for _, c := range []api.Call{
			{Kind: kind},
			{Kind: kind, Fd: 3, Data: data(5)},
			{Kind: kind, Fd: -1, N: -1, Off: -1, Flags: 99, Path: "/a", Other: "/b", Data: data(1025)},
		} {
			if Fds(c) != byFd || Writes(c) != writes {
				t.Error(kind, Fds(c), byFd, Writes(c), writes)
			}
		}
	}
}

// P25.2: Most.

func TestMost(t *testing.T) {
	for _, c := range []struct{ length, pages int }{
		{0, 0}, {1, 3}, {2, 3}, {255, 3}, {256, 3}, {257, 4}, {511, 4}, {512, 4}, {513, 5}, {768, 5}, {769, 6}, {1023, 6}, {1024, 6},
		{1025, 7}, {1280, 7}, {1281, 8}, {16384, 66}, {1 << 17, 514},
	} {
		for _, kind := range anyKinds {
			want := 0
			switch kind {
			case kWrite, kPwrite:
				want = c.pages
			case kTruncate:
				want = 1
			}
			for _, a := range []api.Call{{Kind: kind}, {Kind: kind, N: 700, Off: 255}, {Kind: kind, Fd: -1, N: -1, Off: -1, Flags: 31, Path: "/a"}} {
				a.Data = data(c.length)
				if got := Most(a); got != want {
					t.Error(kind, c.length, got, "not", want)
				}
			}
		}
	}
	for n := range 3000 {
		want := 0
		for reach := 0; reach < n; reach += 256 {
			want++
		}
		if n > 0 {
			want += 2
		}
		if got := Most(api.Call{Kind: kPwrite, Data: data(n)}); got != want {
			t.Fatal(n, got, "not", want)
		}
	}
	if Most(api.Call{Kind: kWrite}) != 0 || Most(api.Call{Kind: kWrite, Data: make([]byte, 0, 9)}) != 0 {
		t.Error("of no bytes, nil or empty")
	}
}

// file is a view whose node 2 is a file of that size, without holes.
func file(t *testing.T, size int) *view.View {
	t.Helper()
	g, _ := geom.Of(1024)
	disk := pmem.New(geom.Words(g))
	if err := store.Mkfs(disk); err != api.OK {
		t.Fatal(err)
	}
	st, _ := store.Mount(disk)
	v := view.New(st, 64)
	if err := v.Add([]api.Effect{{Kind: api.EfMake, Dir: api.Root, Name: "a", Ino: 2, Page: api.File}}); err != api.OK {
		t.Fatal(err)
	}
	effects, err := v.Write(2, 0, data(size))
	if err != api.OK || v.Add(effects) != api.OK {
		t.Fatal(size, err)
	}
	return v
}

// No write or truncate has more pages to write than Most tells, and of each number of pages that a write's bytes fill some have just as many.
func TestMostIsReached(t *testing.T) {
	reached := map[int]bool{}
	for _, size := range []int{0, 1, 100, 255, 256, 257, 400, 512, 700} {
		v := file(t, size)
		for _, off := range []int{0, 1, 255, 256, 257, 511, 512, 513, 767, 768, 1000, 1023, 1024, 1279, 1281, 5000} {
			for _, n := range []int{0, 1, 2, 255, 256, 257, 258, 511, 512, 513, 514, 768, 770, 1023, 1024} {
				effects, err := v.Write(2, off, data(n))
				most := Most(api.Call{Kind: kPwrite, Off: off, Data: data(n)})
				many := effect.Pages(effects)
				if err != api.OK || many > most {
					t.Fatal(size, off, n, err, many, "above", most)
				}
				reached[most] = reached[most] || many == most
			}
			cuts, err := v.Trunc(2, off)
			if most := Most(api.Call{Kind: kTruncate, N: off}); err != api.OK || effect.Pages(cuts) > most {
				t.Fatal(size, off, err, effect.Pages(cuts), "above", most)
			} else if effect.Pages(cuts) == most {
				reached[most] = true
			}
		}
	}
	for _, most := range []int{0, 1, 3, 4, 5, 6} {
		if !reached[most] {
			t.Error("none has", most)
		}
	}
}

// P25.2: Has.

func TestHas(t *testing.T) {
	flags := []int{1, 2, 4, 8, 16}
	for all := range 32 {
		for i, flag := range flags {
			want := all>>i%2 == 1
			if got := Has(api.Call{Kind: kOpen, Flags: all, Path: "/a"}, flag); got != want {
				t.Error(all, flag, got)
			}
			for _, kind := range anyKinds {
				if kind != kOpen && Has(api.Call{Kind: kind, Flags: all}, flag) {
					t.Error("no open", kind, all, flag)
				}
			}
		}
	}
}

// What is no flag of an open is none that it has, whatever bits its Flags have.
func TestHasNoSuchFlag(t *testing.T) {
	for _, flag := range anyNumbers {
		if oneOf(flag, 1, 2, 4, 8, 16) {
			continue
		}
		for _, all := range anyNumbers {
			if Has(api.Call{Kind: kOpen, Flags: all}, flag) {
				t.Error(all, flag)
			}
		}
	}
}

// Flags that may not be have the bits that they have.
func TestHasOfAnyFlags(t *testing.T) {
	for _, c := range []struct {
		all  int
		have []int
	}{
		{32, nil}, {33, []int{1}}, {48, []int{16}}, {63, []int{1, 2, 4, 8, 16}}, {1 << 32, nil}, {1<<32 + 6, []int{2, 4}},
		{-1, []int{1, 2, 4, 8, 16}}, {-2, []int{2, 4, 8, 16}}, {-32, nil}, {least, nil}, {greatest, []int{1, 2, 4, 8, 16}},
	} {
		for _, flag := range []int{1, 2, 4, 8, 16} {
			if got := Has(api.Call{Kind: kOpen, Flags: c.all}, flag); got != oneOf(flag, c.have...) {
				t.Error(c.all, flag, got)
			}
		}
	}
}

// P25.2: Same.

// others are calls that each are unlike c in one field alone.
func others(c api.Call) []api.Call {
	var l []api.Call
	add := func(change func(x *api.Call)) {
		x := c
		change(&x)
		l = append(l, x)
	}
	for _, by := range []int{1, -1, 1 << 8, 1 << 32, least} {
		add(func(x *api.Call) { x.Kind += by })
		add(func(x *api.Call) { x.Fd += by })
		add(func(x *api.Call) { x.Flags += by })
		add(func(x *api.Call) { x.N += by })
		add(func(x *api.Call) { x.Off += by })
	}
	for _, path := range []string{"/A", "/c", c.Path + "\x00", c.Path + "/"} {
		add(func(x *api.Call) { x.Path = path })
		add(func(x *api.Call) { x.Other = path + "." })
	}
	add(func(x *api.Call) { x.Data = append(slices.Clone(x.Data), 0) })
	for i := range c.Data {
		add(func(x *api.Call) { x.Data = slices.Clone(x.Data); x.Data[i] ^= 128 })
		add(func(x *api.Call) { x.Data = x.Data[:i] })
	}
	return l
}

func TestSame(t *testing.T) {
	for _, c := range []api.Call{
		{},
		{Kind: kPwrite, Fd: 2, Off: 8, Data: []byte{1, 2, 3}},
		{Kind: kRename, Path: "/a", Other: "/b"},
		{Kind: 18, Fd: -1, Flags: 33, N: greatest, Off: least, Path: "/a", Other: "/b", Data: []byte{0}},
	} {
		again := c
		again.Path, again.Other, again.Data = strings.Clone(c.Path), strings.Clone(c.Other), append([]byte{}, c.Data...)
		if !Same(c, c) || !Same(c, again) || !Same(again, c) {
			t.Error(c, "isn't as it is")
		}
		for _, other := range others(c) {
			if Same(c, other) || Same(other, c) || !Same(other, other) {
				t.Error(c, other)
			}
		}
	}
}

// Calls that have the same in other fields.
func TestSameIsFieldByField(t *testing.T) {
	l := []api.Call{
		{}, {Kind: 1}, {Fd: 1}, {Flags: 1}, {N: 1}, {Off: 1}, {Path: "a"}, {Other: "a"}, {Data: []byte("a")},
		{Path: "ab"}, {Path: "a", Other: "b"}, {Other: "ab"}, {Path: "b", Other: "a"}, {Other: "a", Data: []byte("b")}, {Data: []byte("ab")},
		{N: 1, Off: 2}, {N: 2, Off: 1}, {Fd: 1, Flags: 2}, {Fd: 2, Flags: 1}, {Data: []byte{0}}, {Data: []byte{0, 0}}, {Data: []byte{0, 1}}, {Data: []byte{1, 0}},
	}
	for i, a := range l {
		for k, b := range l {
			if Same(a, b) != (i == k) {
				t.Error(a, b)
			}
		}
	}
}

// P2 and P3: what is behind a list's length isn't asked about, and no bytes are no bytes.
func TestSameOfData(t *testing.T) {
	long := []byte{1, 2, 3, 4}
	a, b := api.Call{Kind: kWrite, Data: long[:2:2]}, api.Call{Kind: kWrite, Data: []byte{1, 2, 9, 9}[:2]}
	if !Same(a, b) || !Same(a, api.Call{Kind: kWrite, Data: long[:2]}) || Same(a, api.Call{Kind: kWrite, Data: long}) {
		t.Error("behind the length")
	}
	none, empty := api.Call{Kind: kWrite}, api.Call{Kind: kWrite, Data: []byte{}}
	for _, x := range []api.Call{none, empty, {Kind: kWrite, Data: long[:0]}} {
		if !Same(none, x) || !Same(x, empty) || Same(x, a) || Check(x) != ok || Most(x) != 0 {
			t.Error(x)
		}
	}
	over := api.Call{Kind: kPwrite, Data: make([]byte, 1024, 4096)}
	if Check(over) != ok || Most(over) != 6 {
		t.Error(Check(over), Most(over))
	}
}

// Rules that hold everywhere: P1 to P3.

// Nothing that is given is changed, and what is told hangs on it alone: in whatever order, and at one time.
func TestNothingIsChanged(t *testing.T) {
	var group sync.WaitGroup
	shared := make([]api.Call, 100)
	next := draw(9)
	for i := range shared {
		shared[i] = drawn(next)
	}
	kept := make([]api.Call, len(shared))
	for i, c := range shared {
		kept[i] = c
		kept[i].Data = slices.Clone(c.Data)
	}
	for k := range 8 {
		group.Go(func() {
			for i := range shared {
				c, plain := shared[(i*7+k)%100], kept[(i*7+k)%100]
				if !Same(c, plain) || Check(c) != plainCheck(plain) || Kind(Word(c.Kind)) != c.Kind && Word(c.Kind) != "" {
					t.Error(c.Kind, c.N, c.Off, len(c.Data))
				}
				if Most(c) != Most(plain) || Fds(c) != Fds(plain) || Writes(c) != Writes(plain) || Has(c, 1<<(k%5)) != Has(plain, 1<<(k%5)) {
					t.Error(c.Kind, c.N, c.Off, len(c.Data))
				}
			}
		})
	}
	group.Wait()
	for i, c := range shared {
		if !bytes.Equal(c.Data, kept[i].Data) || c.Path != kept[i].Path || c.Other != kept[i].Other {
			t.Error(i)
		}
	}
}
