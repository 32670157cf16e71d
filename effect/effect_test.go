package effect

import (
	"bytes"
	"slices"
	"strings"
	"sync"
	"testing"
	"unsafe"

	"sump/api"
)

// The chapter's error, kinds and limits, by their numbers.
const (
	errForm   api.Errno = 92
	kMake               = 1
	kLink               = 2
	kUnlink             = 3
	kRmdir              = 4
	kRename             = 5
	kTrunc              = 6
	kWrite              = 7
	kDrop               = 8
	maxIno              = 1048576
	maxSize             = 16384
	pageBytes           = 256
	greatest            = int(^uint(0) >> 1)
)

// allKinds are those that there are.
var allKinds = []int{kMake, kLink, kUnlink, kRmdir, kRename, kTrunc, kWrite, kDrop}

// wrongKinds are numbers of none.
var wrongKinds = []int{0, -1, 9, 10, 16, 17, 100, 1 << 8, 1<<8 + kMake, 1<<16 + kWrite, 1<<32 + kDrop, -kMake, -kDrop, greatest, -greatest - 1}

func of(n int, s string) string { return strings.Repeat(s, n) }

func data(n int) []byte { return bytes.Repeat([]byte{7}, n) }

// draw is a row of numbers that is the same each time.
func draw(seed uint64) func(below int) int {
	x := seed*2862933555777941757 + 88172645463325252
	return func(below int) int {
		x ^= x << 13
		x ^= x >> 7
		x ^= x << 17
		return int(x >> 20 % uint64(below))
	}
}

// plain is an effect of each kind, in their order.
func plain() []api.Effect {
	return []api.Effect{
		{Kind: kMake, Dir: 1, Name: "a", Ino: 2, Page: 1},
		{Kind: kLink, Dir: 1, Name: "b", Ino: 2},
		{Kind: kUnlink, Dir: 1, Name: "b", Ino: 2},
		{Kind: kRmdir, Dir: 1, Name: "d", Ino: 3},
		{Kind: kRename, Dir: 1, Name: "a", To: 3, Other: "c", Ino: 2},
		{Kind: kTrunc, Ino: 2, Size: 5},
		{Kind: kWrite, Ino: 2, Page: 1, Size: 300, Data: data(pageBytes)},
		{Kind: kDrop, Ino: 2},
	}
}

// has tells by the chapter's words what a kind has.
func has(kind int, field string) bool {
	words := map[int]string{
		kMake:   "Dir Name Ino Page",
		kLink:   "Dir Name Ino",
		kUnlink: "Dir Name Ino",
		kRmdir:  "Dir Name Ino",
		kRename: "Dir Name To Other Ino",
		kTrunc:  "Ino Size",
		kWrite:  "Ino Page Size Data",
		kDrop:   "Ino",
	}
	return slices.Contains(strings.Fields(words[kind]), field)
}

// numbers are an effect's fields that are numbers, but for Kind, by their names.
func numbers(e *api.Effect) map[string]*int {
	return map[string]*int{"Ino": &e.Ino, "Dir": &e.Dir, "To": &e.To, "Page": &e.Page, "Size": &e.Size}
}

// names are its fields that are names.
func names(e *api.Effect) map[string]*string {
	return map[string]*string{"Name": &e.Name, "Other": &e.Other}
}

// nameMayBe goes by the bytes one by one.
func nameMayBe(s string) bool {
	dots := 0
	for i := range len(s) {
		if s[i] == 0 || s[i] == 47 {
			return false
		}
		if s[i] == 46 {
			dots++
		}
	}
	return len(s) > 0 && len(s) < 25 && (dots < len(s) || dots > 2)
}

// plainCheck asks field by field: what the kind hasn't is 0, what it has is as it may be.
func plainCheck(e api.Effect) api.Errno {
	if !slices.Contains(allKinds, e.Kind) {
		return errForm
	}
	for field, x := range numbers(&e) {
		if !has(e.Kind, field) && *x != 0 {
			return errForm
		}
	}
	for field, s := range names(&e) {
		if has(e.Kind, field) != nameMayBe(*s) || !has(e.Kind, field) && *s != "" {
			return errForm
		}
	}
	for _, field := range []string{"Ino", "Dir", "To"} {
		if x := *numbers(&e)[field]; has(e.Kind, field) && (x < 1 || x > maxIno) {
			return errForm
		}
	}
	return plainRest(e)
}

// plainRest asks about what only some kinds have, each its own way.
func plainRest(e api.Effect) api.Errno {
	bad := e.Kind != kWrite && len(e.Data) != 0
	switch e.Kind {
	case kMake:
		bad = bad || e.Page != 1 && e.Page != 2
	case kTrunc:
		bad = bad || e.Size < 0 || e.Size > maxSize
	case kWrite:
		bad = e.Page < 0 || e.Page > 63 || e.Size < 1 || e.Size > maxSize || e.Size <= 256*e.Page || len(e.Data) != 256
	}
	if bad {
		return errForm
	}
	return 0
}

// plainSame holds two against each other field by field, byte by byte.
func plainSame(a, b api.Effect) bool {
	if a.Kind != b.Kind || a.Ino != b.Ino || a.Dir != b.Dir || a.To != b.To || a.Page != b.Page || a.Size != b.Size {
		return false
	}
	if a.Name != b.Name || a.Other != b.Other || len(a.Data) != len(b.Data) {
		return false
	}
	for i, x := range a.Data {
		if b.Data[i] != x {
			return false
		}
	}
	return true
}

// brief is an effect without so many bytes, to be told of.
func brief(e api.Effect) (api.Effect, int) {
	many := len(e.Data)
	e.Data = e.Data[:min(many, 3)]
	return e, many
}

// drawEffect draws from few values, so that most fields are as they may be, but seldom all.
func drawEffect(next func(below int) int) api.Effect {
	inos := []int{0, 0, 1, 1, 2, 3, maxIno, maxIno + 1, -1, 5}
	texts := []string{"", "", "a", "ab", of(24, "x"), of(25, "x"), ".", "..", "a/b", "...", "\x00"}
	sizes := []int{0, 0, 1, 2, 255, 256, 257, 300, maxSize, maxSize + 1, -1}
	return api.Effect{
		Kind:  next(11) - 1,
		Ino:   inos[next(len(inos))],
		Dir:   inos[next(len(inos))],
		To:    inos[next(len(inos))],
		Page:  next(6) - 1,
		Size:  sizes[next(len(sizes))],
		Name:  texts[next(len(texts))],
		Other: texts[next(len(texts))],
		Data:  data([]int{0, 0, 1, 255, 256, 257}[next(6)]),
	}
}

// P9.1

func TestCheckTakesWhatMayBe(t *testing.T) {
	long := of(24, "x")
	good := append(plain(), []api.Effect{
		{Kind: kMake, Dir: 1, Name: "a", Ino: 2, Page: 2},
		{Kind: kMake, Dir: maxIno, Name: long, Ino: maxIno, Page: 1},
		{Kind: kMake, Dir: 1, Name: "...", Ino: 1, Page: 2},
		{Kind: kMake, Dir: 7, Name: "\xff", Ino: 7, Page: 1},
		{Kind: kLink, Dir: maxIno, Name: long, Ino: 1},
		{Kind: kLink, Dir: 1, Name: " ", Ino: maxIno},
		{Kind: kUnlink, Dir: maxIno, Name: long, Ino: 1},
		{Kind: kUnlink, Dir: 5, Name: ".a", Ino: maxIno},
		{Kind: kRmdir, Dir: maxIno, Name: long, Ino: 1},
		{Kind: kRmdir, Dir: 1, Name: "a.", Ino: maxIno},
		{Kind: kRename, Dir: maxIno, Name: long, To: maxIno, Other: long, Ino: maxIno},
		{Kind: kRename, Dir: 1, Name: "a", To: 1, Other: "a", Ino: 1},
		{Kind: kTrunc, Ino: 1},
		{Kind: kTrunc, Ino: maxIno, Size: maxSize},
		{Kind: kTrunc, Ino: 2, Size: 1},
		{Kind: kWrite, Ino: 1, Size: 1, Data: data(256)},
		{Kind: kWrite, Ino: maxIno, Size: maxSize, Data: data(256)},
		{Kind: kWrite, Ino: 2, Page: 63, Size: maxSize, Data: make([]byte, 256)},
		{Kind: kWrite, Ino: 2, Page: 63, Size: 63*256 + 1, Data: data(256)},
		{Kind: kWrite, Ino: 2, Page: 1, Size: 257, Data: data(256)},
		{Kind: kDrop, Ino: 1},
		{Kind: kDrop, Ino: maxIno},
	}...)
	for _, e := range good {
		if err := Check(e); err != 0 {
			t.Errorf("Check(%v) = %d, want 0", e, err)
		}
	}
}

// The chapter's example, and other single ones that may not be.
func TestCheckRefuses(t *testing.T) {
	for _, e := range []api.Effect{
		{},
		{Kind: kDrop},
		{Kind: kMake},
		{Kind: kWrite},
		{Kind: kDrop, Ino: -1},
		{Kind: kDrop, Ino: maxIno + 1},
		{Kind: kTrunc, Ino: 2, Size: -1},
		{Kind: kTrunc, Ino: 2, Size: maxSize + 1},
		{Kind: kWrite, Ino: 2, Data: data(256)},
		{Kind: kWrite, Ino: 2, Size: 1},
		{Kind: kWrite, Ino: 2, Size: 1, Data: data(255)},
		{Kind: kWrite, Ino: 2, Size: 1, Data: data(257)},
		{Kind: kWrite, Ino: 2, Page: 1, Size: 256, Data: data(256)},
		{Kind: kWrite, Ino: 2, Page: 63, Size: 63 * 256, Data: data(256)},
		{Kind: kWrite, Ino: 2, Page: 64, Size: 64*256 + 1, Data: data(256)},
		{Kind: kWrite, Ino: 2, Page: 64, Size: maxSize, Data: data(256)},
		{Kind: kWrite, Ino: 2, Page: -1, Size: 1, Data: data(256)},
		{Kind: kMake, Dir: 1, Name: "a", Ino: 2},
		{Kind: kMake, Dir: 1, Name: "a", Ino: 2, Page: 3},
		{Kind: kMake, Dir: 1, Name: "..", Ino: 2, Page: 1},
		{Kind: kLink, Dir: 1, Name: of(25, "x"), Ino: 2}, // a name's own error isn't told
		{Kind: kRename, Dir: 1, Name: "a", To: 3, Other: "c/d", Ino: 2},
		{Kind: kRename, Dir: 1, Name: "a", Ino: 2},
		{Kind: kDrop, Ino: 2, Data: data(1)},
		{Kind: 9, Ino: 2},
		{Kind: 0, Ino: 2},
	} {
		if err := Check(e); err != errForm {
			brief, many := brief(e)
			t.Errorf("Check(%v, of %d bytes) = %d, want %d", brief, many, err, errForm)
		}
	}
}

// checkEach puts each of what is tried into each of these fields of an effect of each kind, one at a time.
func checkEach[T any](t *testing.T, fields func(e *api.Effect) map[string]*T, tried []T) {
	for _, base := range plain() {
		for field := range fields(&base) {
			for _, x := range tried {
				e := base
				*fields(&e)[field] = x
				if err := Check(e); err != plainCheck(e) {
					t.Errorf("kind %d, %s %v: %d, want %d", e.Kind, field, x, err, plainCheck(e))
				}
			}
		}
	}
}

// One number at a time, at and beside each edge, at the greatest numbers, and where 256 times a page wraps round.
func TestCheckOfEachNumber(t *testing.T) {
	var tried []int
	for _, x := range []int{0, 1, 2, 3, 63, 64, 256, 512, maxSize, maxIno, 1 << 31, 1 << 32, 1 << 55, 1 << 56, 1<<56 + 1, 1 << 62, greatest, -greatest} {
		tried = append(tried, x-1, x, x+1, -x)
	}
	checkEach(t, numbers, tried)
}

func TestCheckOfEachName(t *testing.T) {
	tried := []string{
		"", ".", "..", "...", "....", "a", "/", "a/", "/a", "a/b", "\x00", "a\x00", "\x00a", " ", "\xff", "世", ". ",
		of(23, "x"), of(24, "x"), of(25, "x"), of(24, "x") + "/", of(24, "x") + "\x00", of(1<<16, "x"), of(8, "世"), of(8, "世") + "x",
	}
	checkEach(t, names, tried)
}

func TestCheckOfEachLength(t *testing.T) {
	for _, base := range plain() {
		for _, n := range []int{0, 1, 2, 8, 32, 128, 255, 256, 257, 512, 1024, 1 << 16} {
			e := base
			e.Data = data(n)
			want := errForm
			if e.Kind == kWrite && n == 256 || e.Kind != kWrite && n == 0 {
				want = 0
			}
			if err := Check(e); err != want {
				t.Errorf("kind %d, %d bytes: %d, want %d", e.Kind, n, err, want)
			}
		}
	}
}

// Whatever bytes they are, 256 are a write's Data.
func TestCheckOfAnyBytes(t *testing.T) {
	for b := range 256 {
		e := api.Effect{Kind: kWrite, Ino: 2, Size: 1, Data: bytes.Repeat([]byte{byte(b)}, 256)}
		if err := Check(e); err != 0 {
			t.Errorf("bytes %d: %d", b, err)
		}
	}
}

func TestCheckOfKindsThatAreNone(t *testing.T) {
	for _, base := range plain() {
		for _, kind := range wrongKinds {
			e := base
			e.Kind = kind
			if err := Check(e); err != errForm {
				t.Errorf("Check of kind %d, else as a %d: %d", kind, base.Kind, err)
			}
		}
		for _, kind := range allKinds {
			e := base
			e.Kind = kind
			if err := Check(e); err != plainCheck(e) {
				t.Errorf("Check of kind %d, else as a %d: %d", kind, base.Kind, err)
			}
		}
	}
}

// Each field is there or isn't: just what the kind has may be, no less and no more.
func TestCheckOfEachChoiceOfFields(t *testing.T) {
	for _, kind := range allKinds {
		taken := 0
		for choice := range 1 << 8 {
			e := api.Effect{Kind: kind}
			put := func(bit, x int) int { return choice >> bit & 1 * x }
			e.Ino, e.Dir, e.To, e.Page, e.Size = put(0, 2), put(1, 1), put(2, 3), put(3, 1), put(4, 300)
			e.Name, e.Other, e.Data = of(put(5, 1), "a"), of(put(6, 1), "b"), data(put(7, 256))
			err := Check(e)
			if err != plainCheck(e) {
				t.Errorf("kind %d, choice %b: %d, want %d", kind, choice, err, plainCheck(e))
			}
			if err == 0 {
				taken++
			}
		}
		want := 1
		if kind == kTrunc || kind == kWrite { // of size 0, of page 0
			want = 2
		}
		if taken != want {
			t.Errorf("kind %d: %d choices were taken, want %d", kind, taken, want)
		}
	}
}

// Of each page all sizes, of which just those that reach into it may be.
func TestCheckOfEachPageAndSize(t *testing.T) {
	full := data(256)
	for page := -2; page < 67; page++ {
		taken := 0
		for size := -2; size <= maxSize+300; size++ {
			if Check(api.Effect{Kind: kWrite, Ino: 2, Page: page, Size: size, Data: full}) != 0 {
				continue
			}
			taken++
			if size <= 256*page || size > maxSize {
				t.Fatalf("page %d, size %d: taken", page, size)
			}
		}
		want := 0
		if page >= 0 && page < 64 {
			want = maxSize - 256*page
		}
		if taken != want {
			t.Errorf("page %d: %d sizes were taken, want %d", page, taken, want)
		}
	}
}

func TestCheckByTheWords(t *testing.T) {
	next := draw(9)
	good := 0
	for range 400000 {
		e := drawEffect(next)
		if next(2) == 0 { // most others have something that their kind hasn't
			e = onlyWhatItHas(e)
		}
		err := Check(e)
		if err != plainCheck(e) {
			brief, many := brief(e)
			t.Fatalf("Check(%v, of %d bytes) = %d, want %d", brief, many, err, plainCheck(e))
		}
		if err == 0 {
			good++
		}
	}
	if good < 5000 {
		t.Errorf("just %d were taken: too few to say much", good)
	}
}

// onlyWhatItHas is e without what its kind hasn't.
func onlyWhatItHas(e api.Effect) api.Effect {
	for field, x := range numbers(&e) {
		if !has(e.Kind, field) {
			*x = 0
		}
	}
	for field, s := range names(&e) {
		if !has(e.Kind, field) {
			*s = ""
		}
	}
	if !has(e.Kind, "Data") {
		e.Data = nil
	}
	return e
}

// P9.2

func TestWord(t *testing.T) {
	for i, want := range []string{"make", "link", "unlink", "rmdir", "rename", "trunc", "write", "drop"} {
		if s := Word(i + 1); s != want {
			t.Errorf("Word(%d) = %q, want %q", i+1, s, want)
		}
	}
	for _, kind := range wrongKinds {
		if s := Word(kind); s != "" {
			t.Errorf("Word(%d) = %q, want none", kind, s)
		}
	}
	for kind := 9; kind < 1<<12; kind++ {
		if Word(kind) != "" || Word(-kind) != "" {
			t.Errorf("Word(%d) = %q, Word(%d) = %q, want none", kind, Word(kind), -kind, Word(-kind))
		}
	}
}

// Just Ino counts: neither a directory nor any other number that is alike.
func TestTouches(t *testing.T) {
	all := []int{0, 1, 2, 3, 4, 5, -1, maxIno, maxIno + 1, greatest, -greatest - 1}
	for _, mine := range all {
		for _, ino := range all {
			for kind := -1; kind < 10; kind++ {
				e := api.Effect{Kind: kind, Ino: mine, Dir: ino, To: ino, Page: ino, Size: ino, Name: "a"}
				if Touches(e, ino) != (mine == ino) {
					t.Errorf("Touches(%v, %d) = %v", e, ino, Touches(e, ino))
				}
			}
		}
	}
	for _, e := range plain() {
		if !Touches(e, e.Ino) || Touches(e, e.Ino+1) || Touches(e, 0) {
			t.Errorf("Touches(%v, ..)", e)
		}
	}
}

// row is a list of effects on these nodes, of any kinds, in a directory that has a node's number, too.
func row(inos ...int) []api.Effect {
	var l []api.Effect
	for i, ino := range inos {
		l = append(l, api.Effect{Kind: i%8 + 1, Ino: ino, Dir: 4, To: 4})
	}
	return l
}

func TestLast(t *testing.T) {
	for _, c := range []struct {
		l     []api.Effect
		ino   int
		place int
		is    bool
	}{
		{nil, 2, 0, false},
		{[]api.Effect{}, 2, 0, false},
		{nil, 0, 0, false},
		{row(2), 2, 0, true},
		{row(2), 3, 0, false},
		{row(2), 0, 0, false},
		{row(2), 4, 0, false}, // just a directory
		{row(2, 2), 2, 1, true},
		{row(2, 3), 2, 0, true},
		{row(2, 3), 3, 1, true},
		{row(3, 2, 3), 2, 1, true},
		{row(2, 3, 2, 3, 3), 2, 2, true},
		{row(2, 3, 2, 3, 3), 3, 4, true},
		{row(2, 3, 2, 3, 3), 4, 0, false},
		{row(0, 3), 0, 0, true}, // also of numbers that no node has
		{row(-1, 3, -1), -1, 2, true},
		{row(maxIno, maxIno+1), maxIno, 0, true},
		{make([]api.Effect, 9), 0, 8, true},
		{make([]api.Effect, 9), 1, 0, false},
	} {
		if place, is := Last(c.l, c.ino); place != c.place || is != c.is {
			t.Errorf("Last(%v, %d) = %d, %v, want %d, %v", c.l, c.ino, place, is, c.place, c.is)
		}
	}
}

// Node by node: what is told Touches it, nothing behind it does, and of none nothing at all does.
func TestLastByTheWords(t *testing.T) {
	next := draw(21)
	for range 3000 {
		var inos []int
		for range next(12) {
			inos = append(inos, next(7))
		}
		l := row(inos...)
		for ino := range 8 {
			want, wantIs := 0, false
			for i, x := range inos {
				if x == ino {
					want, wantIs = i, true
				}
			}
			if place, is := Last(l, ino); place != want || is != wantIs {
				t.Fatalf("Last of nodes %v, %d = %d, %v, want %d, %v", inos, ino, place, is, want, wantIs)
			}
		}
	}
}

func TestPages(t *testing.T) {
	next := draw(33)
	write := plain()[kWrite-1]
	for _, c := range []struct {
		l    []api.Effect
		want int
	}{
		{nil, 0},
		{[]api.Effect{}, 0},
		{plain(), 1},
		{make([]api.Effect, 5), 0},
		{slices.Repeat([]api.Effect{write}, 64), 64}, // as many as there are, be they one page's
		{[]api.Effect{{Kind: kWrite}, write, Bare(write)}, 3},
		{[]api.Effect{{Kind: kTrunc, Page: 7, Size: 7, Data: data(256)}}, 0},
		{[]api.Effect{{Kind: kWrite + 1<<8}, {Kind: -kWrite}}, 0},
	} {
		if n := Pages(c.l); n != c.want {
			t.Errorf("Pages of %d = %d, want %d", len(c.l), n, c.want)
		}
	}
	for range 2000 {
		var l []api.Effect
		want := 0
		for range next(20) {
			e := drawEffect(next)
			if e.Kind == 7 {
				want++
			}
			l = append(l, e)
		}
		if n := Pages(l); n != want {
			t.Fatalf("Pages = %d, want %d", n, want)
		}
	}
}

func TestBare(t *testing.T) {
	for _, e := range plain() {
		want := e
		want.Data = nil
		if got := Bare(e); got.Data != nil || !plainSame(got, want) {
			t.Errorf("Bare(%v) = %v", e, got)
		}
	}
	next := draw(35)
	for range 5000 {
		e := drawEffect(next)
		was := e
		was.Data = bytes.Clone(e.Data)
		got := Bare(e)
		if !plainSame(e, was) {
			t.Fatalf("Bare changes what it is given: %v", e)
		}
		if was.Data = nil; got.Data != nil || !plainSame(got, was) || !Same(got, was) || !Same(Bare(got), got) {
			t.Fatalf("Bare(%v) = %v", e, got)
		}
	}
}

// others are e with one thing that isn't alike, each time another one.
func others(e api.Effect) []api.Effect {
	var l []api.Effect
	add := func(change func(e *api.Effect)) {
		x := e
		x.Data = bytes.Clone(e.Data)
		change(&x)
		l = append(l, x)
	}
	for _, by := range []int{1, -1, 1 << 8, 1 << 31, 1 << 32, 1 << 62} {
		add(func(e *api.Effect) { e.Kind += by })
		for field := range numbers(&e) {
			add(func(e *api.Effect) { *numbers(e)[field] += by })
		}
	}
	for field := range names(&e) {
		for _, tail := range []string{"x", "\x00", " ", "/"} {
			add(func(e *api.Effect) { *names(e)[field] += tail })
			add(func(e *api.Effect) { *names(e)[field] = tail + *names(e)[field] })
		}
	}
	add(func(e *api.Effect) { e.Data = append(e.Data, 0) })
	add(func(e *api.Effect) { e.Data = append([]byte{0}, e.Data...) })
	for i := range e.Data {
		add(func(e *api.Effect) { e.Data[i] ^= 1 })
		add(func(e *api.Effect) { e.Data[i] ^= 128 })
		add(func(e *api.Effect) { e.Data = e.Data[:i] })
	}
	return l
}

func TestSame(t *testing.T) {
	all := append(plain(), api.Effect{}, api.Effect{Kind: -1, Ino: -2, Dir: greatest, To: -greatest, Page: 9, Size: -9, Name: "/", Other: of(99, "\x00"), Data: data(3)})
	for i, a := range all {
		for j, b := range all {
			if Same(a, b) != (i == j) {
				t.Errorf("Same(%v, %v) = %v", a, b, Same(a, b))
			}
		}
		own := a
		own.Name, own.Other, own.Data = strings.Clone(a.Name), strings.Clone(a.Other), bytes.Clone(a.Data)
		if !Same(a, own) || !Same(own, a) {
			t.Errorf("Same(%v, one alike) = false", a)
		}
		for _, b := range others(a) {
			if Same(a, b) || Same(b, a) {
				t.Errorf("Same(%v, %v) = true", a, b)
			}
		}
	}
	swapped := api.Effect{Kind: kRename, Dir: 3, Name: "c", To: 1, Other: "a", Ino: 2}
	if Same(plain()[kRename-1], swapped) {
		t.Error("Same of a rename and the way back = true")
	}
}

func TestSameByTheWords(t *testing.T) {
	next := draw(41)
	alike := 0
	for range 200000 {
		a := drawEffect(next)
		b := a
		b.Data = bytes.Clone(a.Data)
		c := drawEffect(next)
		switch next(10) {
		case 0:
			b.Kind = c.Kind
		case 1:
			b.Ino = c.Ino
		case 2:
			b.Dir = c.Dir
		case 3:
			b.To = c.To
		case 4:
			b.Page = c.Page
		case 5:
			b.Size = c.Size
		case 6:
			b.Name = c.Name
		case 7:
			b.Other = c.Other
		case 8:
			b.Data = c.Data
		}
		if Same(a, b) != plainSame(a, b) || Same(b, a) != plainSame(a, b) {
			t.Fatalf("Same(%v, %v) = %v", a, b, Same(a, b))
		}
		if plainSame(a, b) {
			alike++
		}
	}
	if alike < 20000 || alike > 150000 {
		t.Errorf("%d of 200000 were alike: too few of one to say much", alike)
	}
}

// The rules that hold everywhere

func TestNilIsLikeEmpty(t *testing.T) {
	for _, e := range plain() {
		one, two := e, e
		if e.Kind != kWrite {
			one.Data, two.Data = nil, make([]byte, 0, 256)
		}
		if !Same(one, two) || Check(one) != 0 || Check(two) != 0 {
			t.Errorf("kind %d: no bytes and nil aren't alike", e.Kind)
		}
	}
	write := api.Effect{Kind: kWrite, Ino: 2, Size: 1, Data: []byte{}}
	if Check(write) != errForm || Check(Bare(write)) != errForm || !Same(write, Bare(write)) {
		t.Error("a write of no bytes and one of nil aren't alike")
	}
}

// Neither lists nor what lies behind their ends are changed, nor does an answer hang on what lies there.
func TestListsStayAsTheyAre(t *testing.T) {
	next := draw(43)
	for range 500 {
		room := make([]api.Effect, 1+next(9))
		for i := range room {
			room[i] = drawEffect(next)
			room[i].Data = append(data(256), data(next(9))...)[:next(257)]
		}
		was := slices.Clone(room)
		for i := range was {
			was[i].Data = bytes.Clone(room[i].Data[:cap(room[i].Data)])
		}
		l := room[:next(len(room))]
		place, is := Last(l, 2)
		if again, isAgain := Last(slices.Clip(slices.Clone(l)), 2); place != again || is != isAgain || Pages(l) != Pages(slices.Clone(l)) {
			t.Fatal("an answer hangs on what lies behind the list")
		}
		for i, e := range room {
			short := e
			short.Data = bytes.Clone(e.Data)
			if Check(e) != Check(short) || !Same(e, short) || !Same(Bare(e), Bare(short)) {
				t.Fatal("an answer hangs on what lies behind the bytes")
			}
			if e.Data = e.Data[:cap(e.Data)]; !plainSame(e, was[i]) {
				t.Fatalf("what was given is %v now, was %v", e, was[i])
			}
		}
	}
}

func share(a, b string) bool {
	from, fromB := uintptr(unsafe.Pointer(unsafe.StringData(a))), uintptr(unsafe.Pointer(unsafe.StringData(b)))
	return a != "" && b != "" && from < fromB+uintptr(len(b)) && fromB < from+uintptr(len(a))
}

func TestBareSharesNothing(t *testing.T) {
	for _, e := range plain() {
		e.Name, e.Other = strings.Clone(e.Name), strings.Clone(e.Other)
		one, two := Bare(e), Bare(e)
		for _, pair := range [][2]string{{one.Name, e.Name}, {one.Other, e.Other}, {one.Name, two.Name}, {one.Other, two.Other}, {one.Name, one.Other}} {
			if share(pair[0], pair[1]) {
				t.Errorf("Bare(%v): %q shares memory", e, pair[0])
			}
		}
	}
}

// No answer hangs on the calls ahead of it, not even while others are on their way.
func TestAnswersHangOnTheirArgumentsAlone(t *testing.T) {
	var group sync.WaitGroup
	for range 4 {
		group.Go(func() {
			next := draw(51)
			for range 20000 {
				a, b := drawEffect(next), drawEffect(next)
				if Check(a) != plainCheck(a) || Same(a, b) != plainSame(a, b) || Pages([]api.Effect{a, b}) > 2 || (Word(a.Kind) == "") != (a.Kind < 1 || a.Kind > 8) {
					t.Errorf("%v, %v: answers as of others", a, b)
				}
			}
		})
	}
	group.Wait()
}
