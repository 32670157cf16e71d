package view

import (
	"bytes"
	"reflect"
	"testing"

	"sump/api"
	"sump/store"
)

// P22.1

// someTree has a file of holes and pages with noise behind its Size, a file of two names, a directory within one, and an orphan.
func someTree() []api.Effect {
	return []api.Effect{
		makes(1, "d", 2, dir), makes(1, "f", 3, file), makes(2, "g", 4, file), makes(2, "e", 5, dir), makes(1, "o", 6, file),
		writes(3, 0, 256), writes(3, 3, 900), writes(4, 0, 10), writes(4, 1, 500), writes(6, 0, 200), truncs(6, 7),
		links(5, "f", 3), unlinks(1, "o", 6),
	}
}

// scenes are views of one tree: all of it stays, none of it does, and some of it does.
func scenes(t *testing.T) map[string]*View {
	t.Helper()
	l := map[string]*View{}
	for name, many := range map[string]int{"all stays": 13, "nothing stays": 0, "six stay": 6, "nine stay": 9} {
		l[name] = fresh(t, 64, 0)
		adds(t, l[name], someTree()...)
		pushes(t, l[name], many)
	}
	return l
}

func sceneTree(t *testing.T) *plain {
	t.Helper()
	p := plainOf(t, mounted(t, deviceOf(t, 64)))
	p.do(t, someTree()...)
	return p
}

// numbersAround are those at which pages begin and end, and those far from all.
func numbersAround() []int {
	return []int{least, -257, -256, -1, 0, 1, 6, 7, 8, 9, 10, 11, 255, 256, 257, 499, 500, 501, 511, 512, 768, 899, 900, 901, 1023, 1024, 1025, 16383, 16384, 16385, greatest - 256, greatest}
}

func TestNewIsOfTheStoresState(t *testing.T) {
	d := deviceOf(t, 64)
	first := New(mounted(t, d), 8)
	adds(t, first, someTree()...)
	pushes(t, first, 11)
	for _, st := range []*store.Store{first.Store(), mounted(t, d)} {
		v := New(st, 8)
		if got, want := nodes(v.State()), nodes(st.State()); !reflect.DeepEqual(got, want) || v.State().Last() != 6 {
			t.Error(got, want)
		}
		if v.Store() != st || v.Gone() != 0 || v.Next() != 1 || v.Last(3) != 0 || v.Dirty() != 0 || len(v.Pending()) != 0 {
			t.Error("something is pending")
		}
		expect(t, v, doubleOf(t, st, 8))
	}
	if v := fresh(t, 64, 8); len(nodes(v.State())) != 1 || v.State().Last() != 1 {
		t.Error(nodes(v.State()))
	}
}

func TestNewHasSoManyPages(t *testing.T) {
	st := mounted(t, deviceOf(t, 64))
	for most, want := range map[int]int{least: 8, -1: 8, 0: 8, 7: 8, 8: 8, 9: 9, 255: 255, 256: 256, 257: 256, greatest: 256} {
		if v := New(st, most); !v.Room(want) || v.Room(want+1) {
			t.Error(most)
		}
	}
}

func TestNewOfNoStore(t *testing.T) {
	if New(nil, 8) != nil || New(&store.Store{}, 8) != nil {
		t.Error("a view of no store")
	}
}

func TestStateIsACopy(t *testing.T) {
	for name, v := range scenes(t) {
		was := lookAt(v)
		for _, e := range []api.Effect{drops(6), truncs(3, 0), makes(1, "z", 7, file)} {
			if _, err := v.State().Apply(e, 0); err != 0 {
				t.Fatal(name, err)
			}
		}
		s := v.State()
		s.Apply(truncs(4, 0), 0)
		expectLook(t, v, was)
	}
}

func TestPage(t *testing.T) {
	want := sceneTree(t)
	for name, v := range scenes(t) {
		for ino := -1; ino < 9; ino++ {
			for _, i := range []int{least, -1, 0, 1, 2, 3, 4, 62, 63, 64, 1 << 55, 1<<56 + 1, greatest} {
				got, err := v.Page(ino, i)
				if b, wantErr := want.page(ino, i); !bytes.Equal(got, b) || err != wantErr {
					t.Error(name, ino, i, got, err)
				}
				if again, _ := v.Page(ino, i); !bytes.Equal(again, got) {
					t.Error(name, ino, i, "again", again)
				}
			}
		}
	}
}

func TestPagesOfEachKind(t *testing.T) {
	v := fresh(t, 64, 8)
	adds(t, v, makes(1, "f", 2, file), writes(2, 0, 600), writes(2, 2, 600))
	pushes(t, v, 2)
	full, cut := writes(2, 0, 600).Data, writes(2, 2, 600).Data
	clear(cut[88:])
	for i, want := range [][]byte{full, make([]byte, 256), cut, make([]byte, 256)} {
		if got, err := v.Page(2, i); err != 0 || !bytes.Equal(got, want) {
			t.Error(i, got, err)
		}
	}
	n, _ := v.State().Get(2)
	if n.Pages[0] != 1 || n.Pages[1] != 0 || n.Pages[2] != -2 {
		t.Error(n.Pages)
	}
}

func TestWhatHasNoPages(t *testing.T) {
	v := fresh(t, 64, 8)
	adds(t, v, makes(1, "d", 2, dir), makes(1, "f", 3, file))
	for ino, want := range map[int]api.Errno{least: errNone, -1: errNone, 0: errNone, 1: errIsDir, 2: errIsDir, 3: 0, 4: errNone, 1 << 20: errNone, greatest: errNone} {
		for _, at := range []int{least, -1, 0, 1, greatest} {
			b, err := v.Page(ino, at)
			if err != want || err == 0 && !bytes.Equal(b, make([]byte, 256)) || err != 0 && b != nil {
				t.Error(ino, at, b, err)
			}
			wantBytes := want
			if want == 0 && at < 0 {
				wantBytes = errArg
			}
			for _, n := range []int{0, 1, greatest} {
				if b, err := v.Bytes(ino, at, n); err != wantBytes || len(b) != 0 {
					t.Error(ino, at, n, b, err)
				}
			}
			if b, err := v.Bytes(ino, 0, at); err != wantBytes || len(b) != 0 {
				t.Error(ino, 0, at, b, err)
			}
		}
	}
}

func TestBytes(t *testing.T) {
	want := sceneTree(t)
	for name, v := range scenes(t) {
		for ino := range 8 {
			for _, off := range numbersAround() {
				for _, n := range numbersAround() {
					got, err := v.Bytes(ino, off, n)
					if b, wantErr := want.bytes(ino, off, n); !bytes.Equal(got, b) || err != wantErr {
						t.Fatal(name, ino, off, n, got, err, b, wantErr)
					}
				}
			}
		}
	}
}

func TestBytesOfTheGreatestFile(t *testing.T) {
	v := fresh(t, 100, 256)
	adds(t, v, makes(1, "f", 2, file))
	var want []byte
	for i := range 64 {
		e := writes(2, i, 256*(i+1))
		adds(t, v, e)
		want = append(want, e.Data...)
	}
	pushes(t, v, 40)
	for _, off := range numbersAround() {
		for _, n := range numbersAround() {
			if off < 0 || n < 0 {
				continue
			}
			from := min(off, 16384)
			got, err := v.Bytes(2, off, n)
			if !bytes.Equal(got, want[from:from+min(n, 16384-from)]) || err != 0 {
				t.Fatal(off, n, len(got), err)
			}
		}
	}
}

// halfDark is a view of file 2, of which pages 0 and 2 are a hole and a page of the cache, pages 1 and 3 pages of data, and of file 3, of which page 0 is a page of data, page 1 none; its device is Dead.
func halfDark(t *testing.T) *View {
	t.Helper()
	d := deviceOf(t, 64)
	v := New(mounted(t, d), 8)
	adds(t, v, makes(1, "f", 2, file), makes(1, "g", 3, file), writes(2, 1, 512), writes(2, 3, 1000), writes(3, 0, 300), writes(2, 2, 1000))
	pushes(t, v, 5)
	dead(t, d)
	return v
}

func TestReadsOfADeadDevice(t *testing.T) {
	v := halfDark(t)
	for i, want := range []api.Errno{0, errIO, 0, errIO, 0} {
		b, err := v.Page(2, i)
		if err != want || (b == nil) != (want != 0) {
			t.Error(i, b, err)
		}
	}
	if b, _ := v.Page(2, 2); !bytes.Equal(b, writes(2, 2, 1000).Data) {
		t.Error(b)
	}
	for _, c := range []struct {
		off, n int
		want   api.Errno
	}{
		{0, 256, 0}, {0, 257, errIO}, {255, 2, errIO}, {512, 256, 0}, {511, 1, errIO}, {512, 257, errIO}, {600, 10, 0}, {999, 1, errIO}, {1000, 1, 0}, {greatest, greatest, 0}, {300, 0, 0}, {-1, 300, errArg}, {300, -1, errArg},
	} {
		b, err := v.Bytes(2, c.off, c.n)
		if err != c.want || err != 0 && b != nil {
			t.Error(c, b, err)
		}
	}
}

// P22.4

func TestWhatIsPending(t *testing.T) {
	v := fresh(t, 64, 8)
	made, other := makes(1, "f", 2, file), makes(1, "g", 3, file)
	write, cut := writes(2, 0, 9), truncs(3, 9)
	if err := v.Add([]api.Effect{made, other, write, cut}); err != 0 {
		t.Fatal(err)
	}
	bare := write
	bare.Data = nil
	l := []api.Effect{made, other, bare, cut}
	for gone := range 5 {
		if v.Gone() != gone || v.Next() != 5 || !sameEffects(v.Pending(), l[gone:]) {
			t.Error(gone, v.Gone(), v.Next(), v.Pending())
		}
		if v.Last(2) != max(gone, 3) || v.Last(3) != 4 || v.Last(1) != gone || v.Last(0) != gone || v.Last(least) != gone {
			t.Error(gone, v.Last(2), v.Last(3), v.Last(1))
		}
		if want := 1 - gone/3; v.Dirty() != want {
			t.Error(gone, v.Dirty())
		}
		v.Push()
	}
	adds(t, v, truncs(2, 4))
	if v.Gone() != 4 || v.Next() != 6 || v.Last(2) != 5 || v.Last(3) != 4 {
		t.Error(v.Gone(), v.Next(), v.Last(2))
	}
}

func TestStore(t *testing.T) {
	st := mounted(t, deviceOf(t, 64))
	v, w := New(st, 8), New(st, 9)
	if v.Store() != st || w.Store() != st {
		t.Error("another store")
	}
}

// P22.5

func TestNobodyMade(t *testing.T) {
	for i, v := range []*View{nil, {}} {
		if v.State() != nil || v.Store() != nil || v.Pending() != nil || v.Room(0) || v.Room(-1) {
			t.Error(i, "something is there")
		}
		if v.Gone() != 0 || v.Next() != 0 || v.Last(1) != 0 || v.Last(0) != 0 || v.Dirty() != 0 {
			t.Error(i, v.Gone(), v.Next(), v.Last(1), v.Dirty())
		}
		for _, x := range []int{least, 0, 1, greatest} {
			page, err := v.Page(x, x)
			row, err2 := v.Bytes(x, x, x)
			l, err3 := v.Write(x, x, []byte{1})
			l2, err4 := v.Trunc(x, x)
			if page != nil || row != nil || l != nil || l2 != nil || err != errNil || err2 != errNil || err3 != errNil || err4 != errNil {
				t.Error(i, x, page, row, l, l2, err, err2, err3, err4)
			}
		}
		for _, l := range [][]api.Effect{nil, {makes(1, "f", 2, file)}, {{}}} {
			if v.Try(l) != errNil || v.Add(l) != errNil {
				t.Error(i, v.Try(l), v.Add(l))
			}
		}
		if is, err := v.Push(); is || err != errNil {
			t.Error(i, is, err)
		}
	}
}

// P2

func TestNothingThatIsToldIsShared(t *testing.T) {
	for name, v := range scenes(t) {
		want := sceneTree(t)
		for _, ino := range []int{3, 4, 6} {
			for i := range 5 {
				b, _ := v.Page(ino, i)
				clear(b[:cap(b)])
			}
			b, _ := v.Bytes(ino, 0, 999)
			clear(b[:cap(b)])
			l, _ := v.Write(ino, 1000, noise(1, 1000))
			more, _ := v.Trunc(ino, 5000)
			for _, e := range append(l, more...) {
				clear(e.Data[:cap(e.Data)])
			}
			pending := v.Pending()
			clear(pending[:cap(pending)])
		}
		expectTree(t, v, want)
		if len(v.Pending()) != 13-v.Gone() || v.Pending() != nil && v.Pending()[0].Kind == 0 {
			t.Error(name, v.Pending())
		}
	}
}

func TestEffectsOfAWriteShareNothing(t *testing.T) {
	v := fresh(t, 64, 8)
	adds(t, v, makes(1, "f", 2, file), writes(2, 0, 100))
	b := noise(1, 1000)
	given := bytes.Clone(b)
	l, _ := v.Write(2, 300, b)
	again, _ := v.Write(2, 300, b)
	if !bytes.Equal(b, given) || len(l) != 6 {
		t.Fatal("b is changed", len(l))
	}
	clear(b)
	for i := range l {
		data := l[i].Data[:cap(l[i].Data)]
		clear(data)
		for j := range l {
			if j > i && !reflect.DeepEqual(l[j], again[j]) {
				t.Error(i, j, l[j])
			}
		}
	}
}

func TestWhatIsAddedIsACopy(t *testing.T) {
	v, want := fresh(t, 64, 8), sceneTree(t)
	l := someTree()
	for i, e := range l {
		if e.Kind == 7 {
			l[i].Data = append(make([]byte, 0, 300), e.Data...)
		}
	}
	given := append([]api.Effect(nil), l...)
	if err := v.Add(l); err != 0 {
		t.Fatal(err)
	}
	if !sameEffects(l, given) || !sameEffects(l, someTree()) {
		t.Error("what is given is changed")
	}
	for _, e := range l {
		clear(e.Data)
	}
	clear(l)
	expectTree(t, v, want)
	pushes(t, v, 13)
	expectTree(t, v, want)
}
