package name

import (
	"slices"
	"strings"
	"sync"
	"testing"
	"unsafe"

	"sump/api"
)

// The chapter's errors and limits, by their numbers.
const (
	errInval api.Errno = 22
	errLong  api.Errno = 36
	maxName            = 24
	maxPath            = 120
)

// of is a text of n bytes, all alike.
func of(n int, s string) string { return strings.Repeat(s, n) }

// draw is a row of numbers that is the same each time.
func draw(seed uint64) func(below int) int {
	x := seed*2862933555777941757 + 88172645463325252
	return func(below int) int {
		x ^= x << 13
		x ^= x >> 7
		x ^= x << 17
		return int(x >> 20 % uint64(below))
	}
}

// goodNames are names that may be: the shortest and the longest, dots beside other bytes, spaces, bytes that are no UTF-8.
var goodNames = []string{
	"a", "b", "ab", "B", "a.", ".a", "...", "....", ". .", " ", "  ", "..a", "a..", ".\x01", "\x01", "\xff", "\xc3", "é", "世界", "\\", "a\\b", "a b",
	"-", "~", "*", "\n", "\x7f", "\u2215", "\xc0\x80", "\xc0\xaf", of(23, "x"), of(24, "x"), of(24, "."), of(24, " "), of(24, "\xff"), of(8, "世"), of(12, "é"),
}

// badNames are names that may not be, and why.
var badNames = []struct {
	s    string
	want api.Errno
}{
	{"", errInval},
	{".", errInval},
	{"..", errInval},
	{"/", errInval},
	{"//", errInval},
	{"/a", errInval},
	{"a/", errInval},
	{"a/b", errInval},
	{"./", errInval},
	{"\x00", errInval},
	{"\x00a", errInval},
	{"a\x00", errInval},
	{"a\x00b", errInval},
	{".\x00", errInval},
	{"..\x00", errInval},
	{"\xff\x00", errInval},
	{"\xff/", errInval},
	{"世/", errInval},
	{of(23, "x") + "/", errInval},
	{of(23, "x") + "\x00", errInval},
	{of(24, "/"), errInval},
	{of(24, "\x00"), errInval},
	{of(25, "x"), errLong},
	{of(25, "."), errLong},
	{of(26, "x"), errLong},
	{of(8, "世") + "x", errLong}, // bytes count, not runes
	{of(13, "é"), errLong},
	{of(25, "\xff"), errLong},
	{of(120, "x"), errLong},
	{of(256, "x"), errLong},
	{of(24+1<<16, "x"), errLong},
	{of(24, "x") + "/", errInval}, // both, of which ErrInval is named first
	{"/" + of(24, "x"), errInval},
	{of(24, "x") + "\x00", errInval},
	{"\x00" + of(24, "x"), errInval},
	{of(1<<16, "x") + "/" + of(9, "x"), errInval},
	{of(1<<16, "x") + "\x00", errInval},
	{of(25, "/"), errInval},
	{of(25, "\x00"), errInval},
}

// drawText draws from few bytes, so that slashes, dots and what may not be stand at any place.
func drawText(next func(below int) int, n int) string {
	const few = "/////...aaaaab\xff\xc3 "
	b := make([]byte, n)
	for i := range b {
		b[i] = few[next(len(few))]
		if next(150) == 0 {
			b[i] = byte(next(256))
		}
	}
	return string(b)
}

// drawPath draws names of many lengths behind each other, most of which may be.
func drawPath(next func(below int) int) string {
	var b strings.Builder
	for range next(8) {
		b.WriteString(of(1+next(3)/2, "/"))
		switch next(12) {
		case 0:
			b.WriteString(badNames[next(len(badNames))].s)
		case 1:
			b.WriteString(of(23+next(4), "y"))
		default:
			b.WriteString(goodNames[next(len(goodNames))])
		}
	}
	return b.String() + of(next(2), "/")
}

// shorts are all texts of at most n bytes of few.
func shorts(few string, n int) []string {
	all, ahead := []string{""}, []string{""}
	for range n {
		var longer []string
		for _, s := range ahead {
			for i := range len(few) {
				longer = append(longer, s+few[i:i+1])
			}
		}
		all, ahead = append(all, longer...), longer
	}
	return all
}

// texts are texts to try as a name or a path: all short ones, all those above, and drawn ones.
func texts() []string {
	all := shorts("/.a\x00", 5)
	for _, s := range goodNames {
		all = append(all, s, "/"+s, s+"/", "//"+s+"//"+s, "/.a/"+s)
	}
	for _, c := range badNames {
		all = append(all, c.s, "/"+c.s, "/a/"+c.s+"/b")
	}
	next := draw(5)
	for n := range 130 {
		for range 10 {
			all = append(all, drawText(next, n), "/"+drawText(next, n))
		}
	}
	for range 3000 {
		all = append(all, drawPath(next))
	}
	return all
}

// plainCheck goes by the bytes one by one.
func plainCheck(s string) api.Errno {
	dots, bad := 0, len(s) == 0
	for i := range len(s) {
		if s[i] == 46 {
			dots++
		}
		if s[i] == 47 || s[i] == 0 {
			bad = true
		}
	}
	if len(s) < 3 && dots == len(s) {
		bad = true
	}
	if bad {
		return errInval
	}
	if len(s) > 24 {
		return errLong
	}
	return 0
}

// plainSplit goes from one slash to the next, or the end.
func plainSplit(path string) ([]string, api.Errno) {
	if len(path) > 120 {
		return nil, errLong
	}
	if len(path) == 0 || path[0] != 47 {
		return nil, errInval
	}
	var names []string
	from := 1
	for i := 1; i <= len(path); i++ {
		if i < len(path) && path[i] != 47 {
			continue
		}
		if i > from {
			names = append(names, path[from:i])
		}
		from = i + 1
	}
	for _, s := range names {
		if err := plainCheck(s); err != 0 {
			return nil, err
		}
	}
	return names, 0
}

// plainLess finds the first byte that isn't alike.
func plainLess(a, b string) bool {
	i := 0
	for i < len(a) && i < len(b) && a[i] == b[i] {
		i++
	}
	switch {
	case i == len(b):
		return false
	case i == len(a):
		return true
	}
	return a[i] < b[i]
}

// plainUnder holds the names against each other one by one.
func plainUnder(path, of string) bool {
	l, err := plainSplit(path)
	above, errOf := plainSplit(of)
	if err != 0 || errOf != 0 || len(l) <= len(above) {
		return false
	}
	for i, s := range above {
		if l[i] != s {
			return false
		}
	}
	return true
}

// P8.1

func TestCheck(t *testing.T) {
	for _, s := range goodNames {
		if err := Check(s); err != 0 {
			t.Errorf("Check(%q) = %d, want 0", s, err)
		}
	}
	for _, c := range badNames {
		if err := Check(c.s); err != c.want {
			t.Errorf("Check(%.40q) of %d bytes = %d, want %d", c.s, len(c.s), err, c.want)
		}
	}
}

func TestCheckByTheWords(t *testing.T) {
	for _, s := range texts() {
		if err := Check(s); err != plainCheck(s) {
			t.Errorf("Check(%.60q) = %d, want %d", s, err, plainCheck(s))
		}
	}
}

// Just two bytes may be nowhere in a name, and a dot may not be all of it: all others may be, at any place.
func TestCheckOfEachByte(t *testing.T) {
	for b := range 256 {
		one := string([]byte{byte(b)})
		bad := b == 0 || b == '/'
		if (Check(one) == errInval) != (bad || b == '.') {
			t.Errorf("Check(%q) = %d", one, Check(one))
		}
		for place := range maxName {
			s := of(place, "x") + one + of(maxName-1-place, "x")
			if want := plainCheck(s); Check(s) != want || (want == errInval) != bad {
				t.Errorf("Check(%q) = %d, want %d", s, Check(s), want)
			}
		}
	}
}

func TestSplit(t *testing.T) {
	long := of(maxName, "x")
	deep := of(maxPath/2, "/a")                     // 120 bytes
	wide := of(4, "/"+long) + "/" + of(19, "y")     // 120 bytes
	slashes := of(maxPath, "/")                     // 120 bytes
	dir := []string{long, long, long, long}         // of wide
	many := slices.Repeat([]string{"a"}, maxPath/2) // of deep
	for _, c := range []struct {
		path string
		want []string
		err  api.Errno
	}{
		{"//a/b/", []string{"a", "b"}, 0}, // the chapter's example
		{"/", nil, 0},
		{"//", nil, 0},
		{slashes, nil, 0},
		{"/a", []string{"a"}, 0},
		{"/a/", []string{"a"}, 0},
		{"//a", []string{"a"}, 0},
		{"/a//b", []string{"a", "b"}, 0},
		{"/b/a", []string{"b", "a"}, 0}, // in order, as they stand
		{"/a/a/a", []string{"a", "a", "a"}, 0},
		{"///a///bc///", []string{"a", "bc"}, 0},
		{"/ab/c", []string{"ab", "c"}, 0},
		{"/.a/..b/...", []string{".a", "..b", "..."}, 0},
		{"/ / ", []string{" ", " "}, 0},
		{"/\xff/\xc3/世", []string{"\xff", "\xc3", "世"}, 0},
		{"/" + long, []string{long}, 0},
		{deep, many, 0},
		{wide, append(dir, of(19, "y")), 0},

		{"", nil, errInval},
		{"a", nil, errInval},
		{"a/", nil, errInval},
		{"a/b", nil, errInval},
		{".", nil, errInval},
		{"./a", nil, errInval},
		{" /a", nil, errInval},
		{"\x00/a", nil, errInval},
		{"\\a", nil, errInval},
		{of(maxPath, "a"), nil, errInval},

		{"/.", nil, errInval},
		{"/..", nil, errInval},
		{"/./", nil, errInval},
		{"//.", nil, errInval},
		{"/a/.", nil, errInval},
		{"/a/./b", nil, errInval},
		{"/a/..", nil, errInval},
		{"/a/../b", nil, errInval},
		{"/../a", nil, errInval},
		{"/\x00", nil, errInval},
		{"/a\x00b/c", nil, errInval},
		{"/a/b/c\x00", nil, errInval},
		{"/" + long + "x", nil, errLong},
		{"/" + long + "x/", nil, errLong},
		{"/a/b/" + long + "x", nil, errLong},

		{"/" + long + "x/..", nil, errLong}, // the first name's error
		{"/../" + long + "x", nil, errInval},
		{"/" + long + "x/a/\x00", nil, errLong},
		{"/\x00/a/" + long + "x", nil, errInval},
		{"/" + long + "\x00", nil, errInval}, // one name's first error

		{deep + "/", nil, errLong},
		{wide + "y", nil, errLong},
		{slashes + "/", nil, errLong},
		{of(121, "a"), nil, errLong}, // ErrLong is named ahead of ErrInval
		{of(60, "/.") + "/", nil, errLong},
		{of(1<<16, "/"), nil, errLong},
		{of(1<<16, "\x00"), nil, errLong},
		{of(41, "世"), nil, errLong}, // bytes count, not runes
	} {
		if l, err := Split(c.path); !slices.Equal(l, c.want) || err != c.err {
			t.Errorf("Split(%.60q) of %d bytes = %q, %d, want %q, %d", c.path, len(c.path), l, err, c.want, c.err)
		}
	}
}

// The longest path may have 120 bytes, whatever they are, and no more.
func TestSplitAtTheLongest(t *testing.T) {
	for n := range 140 {
		for _, c := range []struct{ head, tail string }{{"", "/"}, {"/a", "/"}, {"/", "."}, {"", "a"}} {
			path := c.head + of(max(0, n-len(c.head)), c.tail)
			l, err := Split(path)
			want, wantErr := plainSplit(path)
			if len(path) > maxPath {
				want, wantErr = nil, errLong
			}
			if !slices.Equal(l, want) || err != wantErr {
				t.Errorf("Split(%.30q) of %d bytes = %q, %d, want %q, %d", path, len(path), l, err, want, wantErr)
			}
		}
	}
}

func TestSplitByTheWords(t *testing.T) {
	told, refused := 0, 0
	for _, path := range texts() {
		l, err := Split(path)
		want, wantErr := plainSplit(path)
		if !slices.Equal(l, want) || err != wantErr {
			t.Errorf("Split(%q) = %q, %d, want %q, %d", path, l, err, want, wantErr)
		}
		switch {
		case err != 0:
			refused++
		case len(l) > 0:
			told++
		}
	}
	if told < 500 || refused < 500 {
		t.Errorf("%d told, %d refused: too few of one to say much", told, refused)
	}
}

// What Split tells may be, name by name, and slashes more or less don't change it.
func TestSplitTellsNamesThatMayBe(t *testing.T) {
	for _, path := range texts() {
		l, err := Split(path)
		if err != 0 {
			if l != nil {
				t.Errorf("Split(%q) = %q, %d: an error and names", path, l, err)
			}
			continue
		}
		for _, s := range l {
			if Check(s) != 0 {
				t.Errorf("Split(%q) = %q: %q may not be", path, l, s)
			}
		}
		more := "/" + strings.ReplaceAll(path, "/", "//") + "/"
		if again, err := Split(more); len(more) <= maxPath && (err != 0 || !slices.Equal(again, l)) {
			t.Errorf("Split(%q) = %q, %d, want %q", more, again, err, l)
		}
	}
}

// P8.2

func TestJoin(t *testing.T) {
	for _, c := range []struct {
		l    []string
		want string
	}{
		{nil, "/"},
		{[]string{}, "/"},
		{[]string{"a"}, "/a"},
		{[]string{"a", "b"}, "/a/b"},
		{[]string{"b", "a"}, "/b/a"},
		{[]string{"ab", "c", "def"}, "/ab/c/def"},
		{[]string{of(24, "x")}, "/" + of(24, "x")},
		{slices.Repeat([]string{"a"}, 60), of(60, "/a")},
		// names that may not be are joined all the same
		{[]string{""}, "/"},
		{[]string{"", ""}, "//"},
		{[]string{"", "a"}, "//a"},
		{[]string{"a", ""}, "/a/"},
		{[]string{"/"}, "//"},
		{[]string{"/a"}, "//a"},
		{[]string{"a/b", "c"}, "/a/b/c"},
		{[]string{".", ".."}, "/./.."},
		{[]string{"\x00", "\xff"}, "/\x00/\xff"},
		{[]string{of(300, "x"), "y"}, "/" + of(300, "x") + "/y"},
		{slices.Repeat([]string{"abc"}, 1<<12), of(1<<12, "/abc")},
	} {
		if s := Join(c.l); s != c.want {
			t.Errorf("Join(%.60q) = %.60q, want %.60q", c.l, s, c.want)
		}
	}
}

// A slash is ahead of each, whatever they are: put together by hand.
func TestJoinByTheWords(t *testing.T) {
	next := draw(9)
	all := texts()
	for range 3000 {
		var l []string
		want := ""
		for range 1 + next(9) {
			s := all[next(len(all))]
			l = append(l, s)
			want += "/" + s
		}
		if s := Join(l); s != want {
			t.Fatalf("Join(%q) = %q, want %q", l, s, want)
		}
	}
}

func TestBase(t *testing.T) {
	long := of(24, "x")
	for _, c := range []struct {
		path, dir, last string
		err             api.Errno
	}{
		{"/a", "/", "a", 0},
		{"/a/b", "/a", "b", 0},
		{"/a/b/c", "/a/b", "c", 0},
		{"/a/a", "/a", "a", 0},
		{"//a/b/", "/a", "b", 0},
		{"//a//", "/", "a", 0},
		{"///a///b///c", "/a/b", "c", 0},
		{"/...", "/", "...", 0},
		{"/.a/ ", "/.a", " ", 0},
		{"/\xff/世", "/\xff", "世", 0},
		{of(4, "/"+long) + "/" + of(19, "y"), of(4, "/"+long), of(19, "y"), 0},
		{of(60, "/a"), of(59, "/a"), "a", 0},
		{of(119, "/") + "a", "/", "a", 0},

		{"/", "", "", errInval},
		{"//", "", "", errInval},
		{of(120, "/"), "", "", errInval},
		{"", "", "", errInval},
		{"a", "", "", errInval},
		{"a/b", "", "", errInval},
		{"/.", "", "", errInval},
		{"/a/.", "", "", errInval},
		{"/a/..", "", "", errInval},
		{"/../a", "", "", errInval},
		{"/a/b\x00", "", "", errInval},
		{"/\x00/b", "", "", errInval},
		{"/a/" + long + "x", "", "", errLong},
		{"/" + long + "x/a", "", "", errLong},
		{"/" + long + "x/..", "", "", errLong},
		{"/../" + long + "x", "", "", errInval},
		{of(121, "/"), "", "", errLong}, // Split's error is ahead of that there is none
		{of(120, "/") + "a", "", "", errLong},
		{of(121, "a"), "", "", errLong},
	} {
		if dir, last, err := Base(c.path); dir != c.dir || last != c.last || err != c.err {
			t.Errorf("Base(%.60q) = %q, %q, %d, want %q, %q, %d", c.path, dir, last, err, c.dir, c.last, c.err)
		}
	}
}

func TestBaseByTheWords(t *testing.T) {
	for _, path := range texts() {
		dir, last, err := Base(path)
		l, want := plainSplit(path)
		wantDir, wantLast := "", ""
		switch {
		case want == 0 && len(l) == 0:
			want = errInval
		case want == 0:
			wantLast = l[len(l)-1]
			for _, s := range l[:len(l)-1] {
				wantDir += "/" + s
			}
			if len(l) == 1 {
				wantDir = "/"
			}
		}
		if dir != wantDir || last != wantLast || err != want {
			t.Errorf("Base(%q) = %q, %q, %d, want %q, %q, %d", path, dir, last, err, wantDir, wantLast, want)
		}
	}
}

func TestUnder(t *testing.T) {
	long := of(24, "x")
	for _, c := range []struct {
		path, of string
		want     bool
	}{
		{"/a", "/", true},
		{"/a/b", "/", true},
		{"/a/b", "/a", true},
		{"/a/b/c", "/a", true},
		{"/a/b/c", "/a/b", true},
		{"//a//b/", "/a/", true},
		{"/a/b", "///a///", true},
		{"/a", "//", true},
		{"/a/a", "/a", true},
		{"/ab/c", "/ab", true},
		{of(60, "/a"), of(59, "/a"), true},
		{of(4, "/"+long) + "/y", of(4, "/"+long), true},

		{"/", "/", false}, // not more
		{"//", "/", false},
		{"/a", "/a", false},
		{"/a/", "/a", false},
		{"/a", "/a/", false},
		{"/a/b", "//a//b//", false},
		{"/", "/a", false},
		{"/a", "/a/b", false},
		{"/a", "/a/a", false},
		{of(60, "/a"), of(60, "/a"), false},

		{"/ab", "/a", false}, // names, not bytes
		{"/ab/c", "/a", false},
		{"/a/bc", "/a/b", false},
		{"/a/bc/d", "/a/b", false},
		{"/a/b", "/ab", false},
		{"/b/a", "/a", false},
		{"/b/a/c", "/a/c", false},
		{"/a/x/c", "/a/b", false},
		{"/x/b/c", "/a/b", false},
		{"/A/b", "/a", false},

		{"", "", false}, // both are Split
		{"/a", "", false},
		{"", "/", false},
		{"a/b", "a", false},
		{"a/b", "/", false},
		{"a/b", "/a", false},
		{"/a/b", "a", false},
		{"/a/.", "/a", false},
		{"/a/..", "/a", false},
		{"/a/..", "/", false},
		{"/a/b", "/.", false},
		{"/a/b", "/a/.", false},
		{"/./a", "/.", false},
		{"/a\x00/b", "/a\x00", false},
		{"/a/b\x00", "/a", false},
		{"/" + long + "x", "/", false},
		{"/" + long + "x/a", "/" + long + "x", false},
		{"/a/b", "/" + long + "x", false},
		{of(60, "/a") + "/", "/a", false},
		{"/a", of(121, "/"), false},
		{of(61, "/a"), of(60, "/a"), false},
		{of(62, "/a"), of(61, "/a"), false},
	} {
		if is := Under(c.path, c.of); is != c.want {
			t.Errorf("Under(%.60q, %.60q) = %v", c.path, c.of, is)
		}
	}
}

func TestUnderByTheWords(t *testing.T) {
	few := append(shorts("/ab", 5), "/.", "/a/.", "/\x00", of(121, "/"), "/"+of(25, "a"), "/a/"+of(25, "a"))
	yes := 0
	for _, path := range few {
		for _, of := range few {
			want := plainUnder(path, of)
			if Under(path, of) != want {
				t.Errorf("Under(%.40q, %.40q) = %v", path, of, !want)
			}
			if want {
				yes++
			}
		}
	}
	if yes < 500 {
		t.Errorf("just %d are under another one: too few to say much", yes)
	}
}

// What Base tells goes with Under: a path is under its directory, and its directory isn't under it.
func TestUnderGoesWithBase(t *testing.T) {
	for _, path := range texts() {
		dir, _, err := Base(path)
		if is := Under(path, dir); is != (err == 0) {
			t.Errorf("Under(%q, %q) = %v, Base: %d", path, dir, is, err)
		}
		if Under(dir, path) || Under(path, path) {
			t.Errorf("%q is under itself or below", path)
		}
	}
}

func TestLess(t *testing.T) {
	// each is less than all those behind it
	rising := []string{
		"", "\x00", "\x00\x00", "\x00a", "\x01", " ", "-", ".", "..", "...", "./", ".a", "/", "//", "/a", "A", "B", "Z", "Za",
		"a", "a\x00", "a ", "a/", "aB", "aa", "aaa", "aab", "ab", "aba", "ab\xff", "b", "ba", "z", "\x7f", "\x80", "\xc3", "é", "é\x00", "世", "世界", "\xff", "\xff\x00", "\xff\xff",
	}
	for i, a := range rising {
		for j, b := range rising {
			if Less(a, b) != (i < j) {
				t.Errorf("Less(%q, %q) = %v", a, b, Less(a, b))
			}
		}
	}
}

// Bytes count, not runes: above those of UTF-8, texts that are none, and bytes above 127 are greater than those below.
func TestLessOfEachByte(t *testing.T) {
	for a := range 256 {
		for b := range 256 {
			for _, head := range []string{"", "x", "\xc3", of(24, "世")} {
				one, two := head+string([]byte{byte(a)}), head+string([]byte{byte(b), 'x'})
				if Less(one, two) != (a <= b) {
					t.Errorf("Less(%q, %q) = %v", one, two, Less(one, two))
				}
			}
		}
	}
}

func TestLessByTheWords(t *testing.T) {
	few := shorts("ab\xff", 4)
	next := draw(21)
	for n := range 60 {
		few = append(few, drawText(next, n), of(n, "a"), of(n, "a")+"b")
	}
	few = append(few, goodNames...)
	for _, a := range few {
		for _, b := range few {
			if is := Less(a, b); is != plainLess(a, b) {
				t.Errorf("Less(%q, %q) = %v", a, b, is)
			}
			if Less(a, b) && Less(b, a) || a != b && !Less(a, b) && !Less(b, a) {
				t.Errorf("%q and %q: both or none is less", a, b)
			}
		}
	}
}

// P8.3

// drawName is a name that may be, of any length that one may have.
func drawName(next func(below int) int) string {
	const few = "abc...-\xff\xc3\x01 "
	for {
		b := make([]byte, 1+next(maxName))
		for i := range b {
			b[i] = few[next(len(few))]
		}
		if s := string(b); plainCheck(s) == 0 {
			return s
		}
	}
}

func drawNames(next func(below int) int) []string {
	var l []string
	for range next(14) {
		if next(3) == 0 {
			l = append(l, goodNames[next(len(goodNames))])
		} else {
			l = append(l, drawName(next))
		}
	}
	return l
}

func TestSplitOfJoin(t *testing.T) {
	next := draw(33)
	lists := [][]string{
		nil, {"a"}, {"a", "a"}, goodNames[:20], slices.Repeat([]string{"a"}, 60), slices.Repeat([]string{"..."}, 30),
		slices.Repeat([]string{"a"}, 61), slices.Repeat([]string{of(24, "x")}, 4), slices.Repeat([]string{of(24, "x")}, 5),
		slices.Repeat([]string{of(23, "x")}, 5), slices.Repeat([]string{of(11, "x")}, 10), slices.Repeat([]string{of(11, "x")}, 11),
	}
	for _, s := range goodNames {
		lists = append(lists, []string{s}, []string{s, s}, []string{"a", s, "b"})
	}
	for range 5000 {
		lists = append(lists, drawNames(next))
	}
	there, long := 0, 0
	for _, l := range lists {
		path := Join(l)
		again, err := Split(path)
		if len(path) > maxPath {
			long++
			if err != errLong || again != nil {
				t.Errorf("Split of Join(%q) = %q, %d, want ErrLong", l, again, err)
			}
			continue
		}
		there++
		if err != 0 || !slices.Equal(again, l) {
			t.Errorf("Split of Join(%q) = %q, %d", l, again, err)
		}
	}
	if there < 1000 || long < 500 {
		t.Errorf("%d there and back, %d too long: too few of one to say much", there, long)
	}
}

// The other way round: Join of Split is the path without the slashes that say nothing, and is one to Split and Base.
func TestJoinOfSplit(t *testing.T) {
	for _, path := range texts() {
		l, err := Split(path)
		if err != 0 {
			continue
		}
		plain := Join(l)
		if len(plain) > len(path) && len(l) > 0 || strings.Contains(plain, "//") || len(l) > 0 && strings.HasSuffix(plain, "/") {
			t.Errorf("Join of Split(%q) = %q", path, plain)
		}
		if again, err := Split(plain); err != 0 || !slices.Equal(again, l) {
			t.Errorf("Split(%q) = %q, %d, want %q", plain, again, err, l)
		}
		dir, last, err := Base(path)
		if err != 0 {
			continue
		}
		above, err := Split(dir)
		if back := Join(append(above, last)); err != 0 || back != plain {
			t.Errorf("Base(%q) = %q, %q: back again %q, %d, want %q", path, dir, last, back, err, plain)
		}
	}
}

// The rules that hold everywhere

func TestNilIsLikeEmpty(t *testing.T) {
	if Join(nil) != Join([]string{}) || Join(nil) != Join(make([]string, 0, 4)) {
		t.Error("Join of nil isn't that of an empty list")
	}
	if l, err := Split(Join(nil)); len(l) != 0 || err != 0 {
		t.Errorf("Split of Join(nil) = %q, %d", l, err)
	}
}

// Neither the list nor what lies behind its end is changed, nor does a path hang on what lies there.
func TestListsStayAsTheyAre(t *testing.T) {
	next := draw(41)
	for range 500 {
		l := drawNames(next)
		room := append(slices.Clone(l), "behind", "")
		was := slices.Clone(room)
		path := Join(room[:len(l)])
		if !slices.Equal(room, was) {
			t.Fatalf("Join(%q): its list is %q now", was, room)
		}
		if path != Join(slices.Clip(slices.Clone(l))) {
			t.Fatalf("Join(%q) = %q: it hangs on what lies behind", l, path)
		}
	}
}

// memory is the place of each byte of s.
func memory(s string) (from, to uintptr) {
	from = uintptr(unsafe.Pointer(unsafe.StringData(s)))
	return from, from + uintptr(len(s))
}

func share(a, b string) bool {
	from, to := memory(a)
	fromB, toB := memory(b)
	return a != "" && b != "" && from < toB && fromB < to
}

func TestAnswersShareNothing(t *testing.T) {
	for _, path := range []string{"/a", "/a/b", "//ab//cde/", of(60, "/a"), "/" + of(24, "x"), of(4, "/"+of(24, "x"))} {
		path = strings.Clone(path)
		one, _ := Split(path)
		two, _ := Split(path)
		was := slices.Clone(one)
		dir, last, _ := Base(path)
		for _, s := range append(slices.Clone(one), dir, last) {
			if share(s, path) {
				t.Errorf("%q of %q shares the path's memory", s, path)
			}
		}
		for i, s := range one {
			if share(s, two[i]) || share(s, last) || share(Join(one[:i+1]), s) || share(Join(one[i:i+1]), s) {
				t.Errorf("%q of %q shares another answer's memory", s, path)
			}
		}
		for i := range two {
			two[i] = "other"
		}
		if again, _ := Split(path); !slices.Equal(one, was) || !slices.Equal(again, was) {
			t.Errorf("Split(%q) = %q: two answers are one list", path, again)
		}
	}
}

// Behind an answer's end there is nothing of what was given.
func TestNothingBehindAnswers(t *testing.T) {
	for _, path := range texts() {
		l, _ := Split(path)
		for _, s := range l[:cap(l)][len(l):] {
			if s != "" {
				t.Fatalf("Split(%q): %q behind the end", path, s)
			}
		}
	}
}

// No answer hangs on the calls ahead of it, not even while others are on their way.
func TestAnswersHangOnTheirArgumentsAlone(t *testing.T) {
	all := texts()
	var group sync.WaitGroup
	for range 4 {
		group.Go(func() {
			for _, path := range all {
				l, err := Split(path)
				want, wantErr := plainSplit(path)
				if !slices.Equal(l, want) || err != wantErr || Check(path) != plainCheck(path) || Under(path, "/a") != plainUnder(path, "/a") {
					t.Errorf("%q: answers as of another one", path)
				}
			}
		})
	}
	group.Wait()
}
