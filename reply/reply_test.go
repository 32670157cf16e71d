package reply

import (
	"bytes"
	"encoding/hex"
	"fmt"
	"slices"
	"strings"
	"sync"
	"testing"

	"sump/api"
)

// The limits of numbers.
const (
	greatest = int(^uint(0) >> 1)
	least    = -greatest - 1
)

// chapterWords are those that the chapter lists, each with its number.
const chapterWords = "ok 0 enoent 2 eio 5 ebadf 9 ebusy 16 eexist 17 enotdir 20 eisdir 21 einval 22 emfile 24 efbig 27 enospc 28 emlink 31 enametoolong 36 enotempty 39 ecorrupt 74"

func listed(t *testing.T) map[int]string {
	t.Helper()
	l := map[int]string{}
	fields := strings.Fields(chapterWords)
	for i := 0; i < len(fields); i += 2 {
		var number int
		if _, err := fmt.Sscan(fields[i+1], &number); err != nil {
			t.Fatal(err)
		}
		l[number] = fields[i]
	}
	if len(l) != 16 {
		t.Fatal(len(l))
	}
	return l
}

// anyErrors are all of api's, and numbers of none around them and away from them.
var anyErrors = []api.Errno{
	0, 2, 5, 9, 16, 17, 20, 21, 22, 24, 27, 28, 31, 36, 39, 74, 90, 91, 92, 93,
	-1, -2, 1, 3, 4, 6, 8, 10, 15, 18, 19, 23, 25, 26, 29, 30, 32, 35, 37, 38, 40, 73, 75, 89, 94, 1 << 8, 1<<8 + 2, 1 << 16, 1 << 32, 1<<32 + 5, -1 << 32,
	api.Errno(least), api.Errno(least + 1), api.Errno(greatest),
}

var anyNumbers = []int{0, 1, 2, 3, 9, 10, 11, 99, 100, 256, 1024, 16384, 1 << 20, 1 << 32, 1<<32 + 1, greatest, -1, -2, -9, -10, -100, -1 << 32, least + 1, least}

var anyNames = [][]string{nil, {}, {""}, {"", ""}, {"a"}, {"a", "b"}, {"b", "a"}, {"a b"}, {"a", ""}, {"", "a"}, {"ab"}, {"ä", "\x00", "\xff\n"}, {"ok", "?", strings.Repeat("x", 24)}}

var anyData = [][]byte{nil, {}, {0}, {0, 0}, {1}, {255}, {15, 16, 240}, {9, 10, 11}, []byte("ok 0"), bytes.Repeat([]byte{0xab}, 1024)}

// draw is a row of numbers that is the same each time.
func draw(seed uint64) func(below int) int {
	x := seed*2862933555777941757 + 88172645463325252
	return func(below int) int {
		x ^= x << 13
		x ^= x >> 7
		x ^= x << 17
		return int(x >> 20 % uint64(below))
	}
}

// drawn is any reply, often with nothing in a field.
func drawn(next func(int) int) api.Reply {
	number := func() int { return anyNumbers[next(len(anyNumbers))*next(2)] }
	r := api.Reply{N: number(), Kind: next(5) - 1, Size: number(), Links: number()}
	r.Err = anyErrors[next(len(anyErrors))*next(2)]
	r.Data = slices.Clone(anyData[next(len(anyData))*next(2)])
	r.Names = slices.Clone(anyNames[next(len(anyNames))*next(2)])
	return r
}

func clone(r api.Reply) api.Reply {
	r.Data, r.Names = slices.Clone(r.Data), slices.Clone(r.Names)
	return r
}

func tell(r api.Reply) string { return fmt.Sprintf("%#v", r) }

// P26.2: Word.

func TestWord(t *testing.T) {
	words := listed(t)
	for e := -300; e <= 1000; e++ {
		if got := Word(api.Errno(e)); got != words[e] {
			t.Errorf("%d: %q, not %q", e, got, words[e])
		}
	}
	for _, e := range anyErrors {
		if got := Word(e); got != words[int(e)] {
			t.Errorf("%d: %q, not %q", e, got, words[int(e)])
		}
	}
	for _, e := range []api.Errno{90, 91, 92, 93} {
		if got := Word(e); got != "" {
			t.Errorf("%d: %q, though the chapter has no word for it", e, got)
		}
	}
}

func TestWordOfNames(t *testing.T) {
	for _, c := range []struct {
		e    api.Errno
		want string
	}{
		{api.OK, "ok"}, {api.ErrNone, "enoent"}, {api.ErrIO, "eio"}, {api.ErrBadFd, "ebadf"}, {api.ErrBusy, "ebusy"}, {api.ErrExist, "eexist"},
		{api.ErrNotDir, "enotdir"}, {api.ErrIsDir, "eisdir"}, {api.ErrInval, "einval"}, {api.ErrFiles, "emfile"}, {api.ErrBig, "efbig"},
		{api.ErrSpace, "enospc"}, {api.ErrLinks, "emlink"}, {api.ErrLong, "enametoolong"}, {api.ErrNotEmpty, "enotempty"}, {api.ErrCorrupt, "ecorrupt"},
		{api.ErrArg, ""}, {api.ErrNil, ""}, {api.ErrForm, ""}, {api.ErrState, ""},
	} {
		if got := Word(c.e); got != c.want {
			t.Errorf("%d: %q, not %q", c.e, got, c.want)
		}
	}
}

// P26.2: Text.

func TestText(t *testing.T) {
	for _, c := range []struct {
		name string
		r    api.Reply
		want string
	}{
		{"the zero one", api.Reply{}, "ok 0"},
		{"a number", api.Reply{N: 15}, "ok 15"},
		{"a number below 0", api.Reply{N: -1}, "ok -1"},
		{"the greatest", api.Reply{N: greatest}, "ok 9223372036854775807"},
		{"the least", api.Reply{N: least}, "ok -9223372036854775808"},
		{"a file", api.Reply{Kind: 1, Size: 300, Links: 2}, "ok 0 file 300 2"},
		{"a directory", api.Reply{N: 3, Kind: 2, Size: 0, Links: 1}, "ok 3 dir 0 1"},
		{"a kind that isn't", api.Reply{Kind: 3, Size: 1, Links: 4}, "ok 0 ? 1 4"},
		{"a kind below 0", api.Reply{Kind: -1, Size: -7, Links: -8}, "ok 0 ? -7 -8"},
		{"of Kind 0 neither Size nor Links", api.Reply{Size: 5, Links: 6}, "ok 0"},
		{"bytes", api.Reply{N: 3, Data: []byte{0, 10, 255}}, "ok 3 000aff"},
		{"bytes by their halves", api.Reply{Data: []byte{0x0f, 0xf0, 0x9a, 0xa9}}, "ok 0 0ff09aa9"},
		{"no bytes", api.Reply{Data: []byte{}}, "ok 0"},
		{"names", api.Reply{N: 2, Names: []string{"b", "a"}}, "ok 2 b a"},
		{"no names", api.Reply{Names: []string{}}, "ok 0"},
		{"a name that is empty", api.Reply{Names: []string{"", "a", ""}}, "ok 0  a "},
		{"any names", api.Reply{Names: []string{"a b", "\x00\xff", "ä"}}, "ok 0 a b \x00\xff ä"},
		{"all", api.Reply{N: 1, Kind: 1, Size: 2, Links: 3, Data: []byte{4}, Names: []string{"5", "6"}}, "ok 1 file 2 3 04 5 6"},
		{"all but a kind", api.Reply{N: 1, Size: 2, Links: 3, Data: []byte{4}, Names: []string{"5", "6"}}, "ok 1 04 5 6"},
		{"an error", api.Reply{Err: 2}, "enoent"},
		{"an error's word alone", api.Reply{Err: 36, N: 1, Kind: 1, Size: 2, Links: 3, Data: []byte{4}, Names: []string{"5"}}, "enametoolong"},
		{"an error without a word", api.Reply{Err: 90}, "?"},
		{"no such error", api.Reply{Err: 1, N: 7}, "?"},
		{"an error below 0", api.Reply{Err: -2, Names: []string{"a"}}, "?"},
	} {
		if got := Text(c.r); got != c.want {
			t.Errorf("%s: %q, not %q", c.name, got, c.want)
		}
	}
}

// plainText goes by the chapter's words, one by one.
func plainText(r api.Reply, words map[int]string) string {
	word := words[int(r.Err)]
	if word == "" {
		word = "?"
	}
	parts := []string{word}
	if r.Err == 0 {
		parts = append(parts, fmt.Sprintf("%d", r.N))
		if r.Kind != 0 {
			kinds := map[int]string{1: "file", 2: "dir"}
			if kinds[r.Kind] == "" {
				kinds[r.Kind] = "?"
			}
			parts = append(parts, fmt.Sprintf("%s %d %d", kinds[r.Kind], r.Size, r.Links))
		}
		if len(r.Data) > 0 {
			parts = append(parts, hex.EncodeToString(r.Data))
		}
		parts = append(parts, r.Names...)
	}
	return strings.Join(parts, " ")
}

func TestTextDrawn(t *testing.T) {
	words, next, many := listed(t), draw(1), map[string]int{}
	for range 20000 {
		r := drawn(next)
		got, want := Text(r), plainText(r, words)
		if got != want {
			t.Fatalf("%s: %q, not %q", tell(r), got, want)
		}
		many[strings.SplitN(got, " ", 2)[0]]++
	}
	if many["ok"] < 5000 || many["?"] < 2000 || len(many) != 17 {
		t.Error("what was drawn tells too little", many)
	}
}

func TestTextOfErrors(t *testing.T) {
	words := listed(t)
	for _, e := range anyErrors {
		for _, r := range []api.Reply{{Err: e}, {Err: e, N: 5, Kind: 2, Size: 6, Links: 7, Data: []byte{8}, Names: []string{"n"}}} {
			if got, want := Text(r), plainText(r, words); got != want {
				t.Errorf("%s: %q, not %q", tell(r), got, want)
			}
		}
	}
}

func TestTextOfNumbers(t *testing.T) {
	words := listed(t)
	for _, x := range anyNumbers {
		for _, r := range []api.Reply{{N: x}, {Kind: x}, {Kind: 1, Size: x}, {Kind: 2, Links: x}, {Size: x, Links: x}, {N: x, Kind: x, Size: x, Links: x}} {
			if got, want := Text(r), plainText(r, words); got != want {
				t.Errorf("%s: %q, not %q", tell(r), got, want)
			}
		}
	}
}

func TestTextOfEachByte(t *testing.T) {
	for x := range 256 {
		if got, want := Text(api.Reply{N: 1, Data: []byte{byte(x)}}), fmt.Sprintf("ok 1 %02x", x); got != want {
			t.Errorf("%q, not %q", got, want)
		}
	}
	all := make([]byte, 70000)
	for i := range all {
		all[i] = byte(i * i >> 3)
	}
	if got, want := Text(api.Reply{Data: all}), "ok 0 "+hex.EncodeToString(all); got != want {
		t.Error("many bytes")
	}
}

// P26.1: Fail.

func TestFail(t *testing.T) {
	for _, e := range anyErrors {
		r := Fail(e)
		if r.Err != e || r.N != 0 || r.Kind != 0 || r.Size != 0 || r.Links != 0 || len(r.Data) != 0 || len(r.Names) != 0 {
			t.Error(e, tell(r))
		}
		if !Plain(r) || !Same(r, Fail(e)) || Same(r, Fail(e+1)) {
			t.Error(e, Plain(r))
		}
	}
}

// P26.1: Plain.

func TestPlain(t *testing.T) {
	rest := []api.Reply{
		{}, {N: 1}, {N: -1}, {Kind: 1}, {Kind: -1}, {Size: 1}, {Size: least}, {Links: 1}, {Links: -1}, {Data: []byte{0}}, {Data: []byte("ab")},
		{Names: []string{""}}, {Names: []string{"a"}}, {N: 1, Kind: 1, Size: 1, Links: 1, Data: []byte{1}, Names: []string{"1"}},
	}
	for _, e := range anyErrors {
		for i, r := range rest {
			r.Err = e
			if got, want := Plain(r), e == 0 || i == 0; got != want {
				t.Error(tell(r), got)
			}
		}
		for _, r := range []api.Reply{
			{Err: e, Data: []byte{}}, {Err: e, Names: []string{}},
			{Err: e, Data: []byte{1, 2}[:0], Names: []string{"a"}[:0]},
		} {
			if !Plain(r) {
				t.Error("empty lists are none", tell(r))
			}
		}
	}
}

func TestPlainDrawn(t *testing.T) {
	next, many := draw(3), map[bool]int{}
	for range 20000 {
		r := drawn(next)
		bare := r.N == 0 && r.Kind == 0 && r.Size == 0 && r.Links == 0 && len(r.Data)+len(r.Names) == 0
		want := r.Err == 0 || bare
		if got := Plain(r); got != want {
			t.Fatal(tell(r), got)
		}
		many[r.Err != 0 && want]++
	}
	if many[true] < 10 || many[false] < 1000 {
		t.Error("what was drawn tells too little", many)
	}
}

// P26.1: Same.

// others are replies that each are unlike r in one field alone.
func others(r api.Reply) []api.Reply {
	var l []api.Reply
	add := func(change func(x *api.Reply)) {
		x := clone(r)
		change(&x)
		l = append(l, x)
	}
	for _, by := range []int{1, -1, 1 << 8, 1 << 32, least} {
		add(func(x *api.Reply) { x.Err += api.Errno(by) })
		add(func(x *api.Reply) { x.N += by })
		add(func(x *api.Reply) { x.Kind += by })
		add(func(x *api.Reply) { x.Size += by })
		add(func(x *api.Reply) { x.Links += by })
	}
	add(func(x *api.Reply) { x.Data = append(x.Data, 0) })
	for i := range r.Data {
		add(func(x *api.Reply) { x.Data[i] ^= 128 })
		add(func(x *api.Reply) { x.Data = x.Data[:i] })
	}
	add(func(x *api.Reply) { x.Names = append(x.Names, "") })
	for i := range r.Names {
		add(func(x *api.Reply) { x.Names[i] += "\x00" })
		add(func(x *api.Reply) { x.Names[i] = "A" })
		add(func(x *api.Reply) { x.Names = x.Names[:i] })
	}
	return l
}

func TestSame(t *testing.T) {
	for _, r := range []api.Reply{
		{},
		{Err: 2},
		{N: 3, Data: []byte{1, 2, 3}},
		{N: 2, Names: []string{"a", "b"}},
		{Kind: 1, Size: 300, Links: 2},
		{Err: -1, N: greatest, Kind: 18, Size: least, Links: -1, Data: []byte{0}, Names: []string{"", "x"}},
	} {
		again := clone(r)
		if !Same(r, r) || !Same(r, again) || !Same(again, r) {
			t.Error(tell(r), "isn't as it is")
		}
		for _, other := range others(r) {
			if Same(r, other) || Same(other, r) || !Same(other, other) {
				t.Error(tell(r), tell(other))
			}
		}
	}
}

// Replies that have the same in other fields, or parted otherwise.
func TestSameIsFieldByField(t *testing.T) {
	l := []api.Reply{
		{}, {Err: 1}, {N: 1}, {Kind: 1}, {Size: 1}, {Links: 1}, {Data: []byte("a")}, {Names: []string{"a"}},
		{Err: 1, N: 2}, {Err: 2, N: 1}, {Kind: 1, Size: 2}, {Kind: 2, Size: 1}, {Size: 1, Links: 2}, {Size: 2, Links: 1},
		{Data: []byte("ab")}, {Data: []byte("ba")}, {Data: []byte{0}}, {Data: []byte{0, 0}}, {Data: []byte("a"), Names: []string{"b"}},
		{Names: []string{""}}, {Names: []string{"", ""}}, {Names: []string{"ab"}}, {Names: []string{"a", "b"}}, {Names: []string{"b", "a"}},
		{Names: []string{"a", ""}}, {Names: []string{"", "a"}}, {Names: []string{"ab", ""}}, {Names: []string{"a b"}}, {Names: []string{"A"}},
	}
	for i, a := range l {
		for k, b := range l {
			if Same(a, b) != (i == k) {
				t.Error(tell(a), tell(b))
			}
		}
	}
}

// P2 and P3: what is behind a list's length isn't asked about, and nothing in a list is no list.
func TestListsByTheirLength(t *testing.T) {
	long, names := []byte{1, 2, 3, 4}, []string{"a", "b", "c"}
	a := api.Reply{Data: long[:2:2], Names: names[:1:1]}
	b := api.Reply{Data: []byte{1, 2, 9, 9}[:2], Names: []string{"a", "x"}[:1]}
	if !Same(a, b) || Same(a, api.Reply{Data: long, Names: names[:1]}) || Same(a, api.Reply{Data: long[:2], Names: names}) {
		t.Error("behind the length")
	}
	if Text(b) != "ok 0 0102 a" || Text(a) != Text(b) {
		t.Error(Text(a), Text(b))
	}
	none := api.Reply{}
	for _, x := range []api.Reply{none, {Data: []byte{}}, {Names: []string{}}, {Data: long[:0], Names: names[:0]}} {
		if !Same(none, x) || !Same(x, none) || Same(x, a) || Same(a, x) || Text(x) != "ok 0" {
			t.Error(tell(x))
		}
	}
	if !slices.Equal(long, []byte{1, 2, 3, 4}) || !slices.Equal(names, []string{"a", "b", "c"}) {
		t.Error("changed", long, names)
	}
}

// Rules that hold everywhere: P1 to P3.

// Nothing that is given is changed, and what is told hangs on it alone: in whatever order, and at one time.
func TestNothingIsChanged(t *testing.T) {
	var group sync.WaitGroup
	words, next := listed(t), draw(9)
	shared := make([]api.Reply, 100)
	for i := range shared {
		shared[i] = drawn(next)
	}
	kept := make([]api.Reply, len(shared))
	for i, r := range shared {
		kept[i] = clone(r)
	}
	for k := range 8 {
		group.Go(func() {
			for i := range shared {
				r, plain := shared[(i*7+k)%100], kept[(i*7+k)%100]
				if Text(r) != plainText(plain, words) || !Same(r, plain) || Word(r.Err) != words[int(plain.Err)] || !Same(Fail(r.Err), api.Reply{Err: plain.Err}) {
					t.Error(k, i, tell(r))
				}
				if Plain(r) != Plain(plain) {
					t.Error(k, i, tell(r))
				}
			}
		})
	}
	group.Wait()
	for i := range shared {
		if tell(shared[i]) != tell(kept[i]) {
			t.Error(i, tell(shared[i]), tell(kept[i]))
		}
	}
}
