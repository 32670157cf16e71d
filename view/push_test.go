package view

import (
	"bytes"
	"reflect"
	"testing"

	"sump/api"
	"sump/pmem"
	"sump/state"
)

// P22.3

func TestTryIsRooms(t *testing.T) {
	for name, v := range scenes(t) {
		was := lookAt(v)
		for i, c := range []struct {
			l    []api.Effect
			want api.Errno
		}{
			{nil, 0}, {[]api.Effect{}, 0}, {[]api.Effect{truncs(3, 5)}, 0}, {[]api.Effect{truncs(3, 5), drops(6), makes(1, "x", 7, file)}, 0},
			{[]api.Effect{{}}, errState}, {[]api.Effect{drops(3)}, errState}, {[]api.Effect{truncs(3, -1)}, errState}, {[]api.Effect{truncs(3, 5), drops(6), drops(6)}, errState},
			{[]api.Effect{truncs(3, 16384)}, 0}, {[]api.Effect{truncs(3, 16384), truncs(4, 16384)}, errSpace}, {[]api.Effect{truncs(3, 16384), truncs(4, 16384), truncs(3, 0)}, errSpace}, {[]api.Effect{truncs(3, 16384), truncs(4, 16384), drops(3)}, errState},
		} {
			if err := v.Try(c.l); err != c.want {
				t.Error(name, i, err)
			}
			expectLook(t, v, was)
		}
	}
}

func TestAddIsSeenAtOnceAndStaysNot(t *testing.T) {
	d := deviceOf(t, 64)
	st := mounted(t, d)
	v, want := New(st, 8), doubleOf(t, st, 8)
	free, log, events := st.Free(), st.Log(), d.Events()
	for i, e := range someTree() {
		if err := v.Add([]api.Effect{e}); err != 0 || want.add(t, []api.Effect{e}) != 0 {
			t.Fatal(i, err)
		}
		expect(t, v, want)
	}
	if st.Free() != free || st.Log() != log || d.Events() != events {
		t.Error("something is written")
	}
	again := New(mounted(t, deviceOf(t, 64)), 8)
	if err := again.Add(someTree()); err != 0 {
		t.Fatal(err)
	}
	expect(t, again, want)
}

func TestAddOfNothing(t *testing.T) {
	for name, v := range scenes(t) {
		was := lookAt(v)
		if v.Add(nil) != 0 || v.Add([]api.Effect{}) != 0 {
			t.Error(name)
		}
		expectLook(t, v, was)
	}
}

// All or none: an effect that can't happen, there is no room for, or that has no page of the cache keeps those ahead of it from being seen, too.
func TestAddRefusesAll(t *testing.T) {
	v := fresh(t, 64, 8)
	adds(t, v, makes(1, "f", 2, file), makes(1, "g", 3, file))
	for i := range 6 {
		adds(t, v, writes(2, 0, 10+i))
	}
	was := lookAt(v)
	for i, c := range []struct {
		l    []api.Effect
		want api.Errno
	}{
		{[]api.Effect{truncs(2, 5), {}}, errState}, {[]api.Effect{truncs(2, 5), drops(2)}, errState}, {[]api.Effect{writes(2, 0, 20), writes(2, 0, 19)}, errState},
		{[]api.Effect{truncs(2, 16384)}, 0}, {[]api.Effect{truncs(2, 16384), truncs(3, 16384)}, errSpace}, {[]api.Effect{truncs(2, 16384), truncs(3, 16384), {}}, errState},
		{[]api.Effect{writes(2, 0, 20), writes(2, 1, 400), writes(3, 0, 9)}, errBusy}, {[]api.Effect{writes(2, 0, 20), writes(2, 0, 21), writes(2, 0, 22), drops(2)}, errState},
		{[]api.Effect{writes(2, 0, 20), writes(2, 0, 21), writes(2, 0, 22), truncs(2, 16384), truncs(3, 16384)}, errSpace}, {[]api.Effect{truncs(2, 3), writes(2, 0, 20), truncs(2, 3), writes(2, 0, 21), writes(3, 0, 22)}, errBusy},
		{[]api.Effect{writes(2, 0, 20), writes(2, 1, 400)}, 0},
	} {
		if c.want == 0 {
			if err := v.Try(c.l); err != 0 {
				t.Error(i, err)
			}
			continue
		}
		if err := v.Add(c.l); err != c.want {
			t.Error(i, err)
		}
		expectLook(t, v, was)
	}
	if err := v.Add([]api.Effect{writes(2, 0, 20), writes(2, 1, 400)}); err != 0 || v.Room(1) || !v.Room(0) || v.Dirty() != 8 {
		t.Error(err, v.Dirty())
	}
}

// A cache that is full takes what writes no page, and, behind as many Pushes as there must be, what does.
func TestAFullCache(t *testing.T) {
	for _, most := range []int{8, 9, 30} {
		v := fresh(t, 64, most)
		want := doubleOf(t, v.Store(), most)
		l := []api.Effect{makes(1, "f", 2, file)}
		for i := range most {
			l = append(l, writes(2, i%5, 2000+i))
		}
		if v.Add(l) != 0 || want.add(t, l) != 0 {
			t.Fatal(most)
		}
		expect(t, v, want)
		more := []api.Effect{writes(2, 0, 3000), writes(2, 1, 3000)}
		for i, c := range []struct{ pushes, many int }{{0, 0}, {1, 0}, {1, 1}, {0, 0}, {2, 2}} {
			for range c.pushes {
				pushes(t, v, 1)
				want.push(t)
			}
			for many := 2; many > c.many; many-- {
				if err := v.Add(more[:many]); err != errBusy {
					t.Error(most, i, many, err)
				}
			}
			if v.Add(more[:c.many]) != 0 || want.add(t, more[:c.many]) != 0 || v.Add([]api.Effect{truncs(2, 2500), truncs(2, 2400)}) != 0 {
				t.Error(most, i)
			}
			want.add(t, []api.Effect{truncs(2, 2500), truncs(2, 2400)})
			expect(t, v, want)
		}
		for want.push(t) {
			pushes(t, v, 1)
			expect(t, v, want)
		}
		if is, err := v.Push(); is || err != 0 || v.Dirty() != 0 {
			t.Error(most, is, err, v.Dirty())
		}
	}
}

func TestPushOfNone(t *testing.T) {
	d := deviceOf(t, 64)
	v := New(mounted(t, d), 8)
	was, events := lookAt(v), d.Events()
	for range 3 {
		if is, err := v.Push(); is || err != 0 {
			t.Error(is, err)
		}
		expectLook(t, v, was)
	}
	dead(t, d)
	if is, err := v.Push(); is || err != 0 || d.Events() != events {
		t.Error(is, err)
	}
}

// Each Push has one effect stay, of each kind; nothing is seen of it but refs.
func TestPushOneByOne(t *testing.T) {
	d := deviceOf(t, 64)
	st := mounted(t, d)
	v, want := New(st, 8), doubleOf(t, st, 8)
	l := append(someTree(), drops(6), renames(2, "g", 1, "h", 4), rmdirs(1, "z", 7), truncs(3, 700), writes(3, 2, 768), writes(3, 2, 768))
	l = append(l[:15], append([]api.Effect{makes(1, "z", 7, dir)}, l[15:]...)...)
	if v.Add(l) != 0 || want.add(t, l) != 0 {
		t.Fatal("not added")
	}
	expect(t, v, want)
	for i := range l {
		pushes(t, v, 1)
		want.push(t)
		expect(t, v, want)
		again := New(mounted(t, d), 8)
		p := want.stays.copy()
		for _, ino := range p.tree.Orphans() {
			p.do(t, drops(ino))
		}
		expectTree(t, again, p)
		if v.Gone() != i+1 {
			t.Error(i, v.Gone())
		}
	}
}

// A page of the cache is turned where it is seen, and only there: a later one, a hole, or nothing stays where another effect came behind it.
func TestPushTurnsWhatIsSeen(t *testing.T) {
	for name, c := range map[string]struct {
		then []api.Effect
		ref  int
		is   bool
	}{
		"nothing":        {nil, 1, true},
		"written over":   {[]api.Effect{writes(2, 0, 256)}, -2, true},
		"beside it":      {[]api.Effect{writes(2, 1, 300)}, 1, true},
		"cut within":     {[]api.Effect{truncs(2, 3)}, 1, true},
		"cut":            {[]api.Effect{truncs(2, 0)}, 0, false},
		"cut, and grown": {[]api.Effect{truncs(2, 0), truncs(2, 10)}, 0, true},
		"cut, and anew":  {[]api.Effect{truncs(2, 0), writes(2, 0, 10)}, -2, true},
		"renamed":        {[]api.Effect{renames(1, "f", 1, "g", 2)}, 1, true},
		"unlinked":       {[]api.Effect{unlinks(1, "f", 2)}, 1, true},
		"dropped":        {[]api.Effect{unlinks(1, "f", 2), drops(2)}, 0, false},
		"another one":    {[]api.Effect{makes(1, "g", 3, file), writes(3, 0, 9)}, 1, true},
	} {
		v := fresh(t, 64, 8)
		adds(t, v, makes(1, "f", 2, file), writes(2, 0, 9))
		adds(t, v, c.then...)
		dirty := v.Dirty()
		pushes(t, v, 2)
		n, _ := v.State().Get(2)
		if (len(n.Pages) > 0) != c.is || c.is && n.Pages[0] != c.ref || v.Dirty() != dirty-1 {
			t.Error(name, n.Pages, v.Dirty(), dirty)
		}
	}
}

// The bytes that stay are all that were added, also those behind the Size.
func TestPushHasAllBytesStay(t *testing.T) {
	v := fresh(t, 64, 8)
	adds(t, v, makes(1, "f", 2, file), writes(2, 0, 9), truncs(2, 3))
	pushes(t, v, 3)
	if b, err := v.Store().Read(1); err != 0 || !bytes.Equal(b, writes(2, 0, 9).Data) {
		t.Error(b, err)
	}
}

// brink is a view in which so many effects went, so that the next Push comes to effects of many kinds, with the log of the store near its end, or not.
func brink(t *testing.T, gone int) (*pmem.Device, *View) {
	t.Helper()
	d := deviceOf(t, 64)
	v := New(mounted(t, d), 8)
	l := append(someTree(), writes(3, 3, 910), renames(5, "f", 1, "g", 3), drops(6), rmdirs(2, "e", 5))
	adds(t, v, l...)
	pushes(t, v, gone)
	return d, v
}

// Wherever power fails, the Push tells the store's error, and nothing has changed.
func TestPushFailsWhole(t *testing.T) {
	for gone := range 16 {
		for n := 1; ; n++ {
			d, v := brink(t, gone)
			was := lookAt(v)
			d.Arm(n)
			is, err := v.Push()
			if err == 0 {
				if !is || n < 4 || v.Gone() != gone+1 {
					t.Error(gone, n, is)
				}
				break
			}
			if is || err != errIO {
				t.Fatal(gone, n, is, err)
			}
			expectLook(t, v, was)
			if again, err := v.Push(); again || err != errIO {
				t.Fatal(gone, n, again, err)
			}
			expectLook(t, v, was)
		}
	}
}

// A store that others have Committed to may refuse what is pending: that is told, and nothing has changed.
func TestPushTellsTheStoresError(t *testing.T) {
	v := fresh(t, 64, 8)
	adds(t, v, makes(1, "f", 2, file), writes(2, 0, 9))
	if _, err := v.Store().Commit(makes(1, "f", 2, file)); err != 0 {
		t.Fatal(err)
	}
	was := lookAt(v)
	for range 3 {
		if is, err := v.Push(); is || err != errState {
			t.Error(is, err)
		}
		expectLook(t, v, was)
	}
	if b, err := v.Page(2, 0); err != 0 || b[0] != writes(2, 0, 9).Data[0] {
		t.Error(b, err)
	}
}

// Whatever wasn't pushed is lost with power, and whatever was is there.
func TestCrashBehindPushes(t *testing.T) {
	for gone := range 17 {
		d, v := brink(t, gone)
		want := doubleOf(t, mounted(t, deviceOf(t, 64)), 8)
		want.add(t, append(someTree(), writes(3, 3, 910), renames(5, "f", 1, "g", 3), drops(6), rmdirs(2, "e", 5)))
		for range gone {
			want.push(t)
		}
		for _, ino := range want.stays.tree.Orphans() {
			want.stays.do(t, drops(ino))
		}
		d.Crash(nil)
		expectTree(t, New(mounted(t, d), 8), want.stays)
		if v.Gone() != gone {
			t.Error(gone, v.Gone())
		}
	}
}

// The pages of data are never more than the device has, though both what stays and what is pending take some.
func TestRoomIsOfWhatIsSeen(t *testing.T) {
	v := fresh(t, 64, 256)
	adds(t, v, makes(1, "f", 2, file))
	for i := range 46 {
		adds(t, v, writes(2, i, 256*(i+1)))
	}
	if v.Try([]api.Effect{writes(2, 46, 256*47)}) != errSpace || v.Add([]api.Effect{writes(2, 46, 256*47)}) != errSpace || v.Try([]api.Effect{writes(2, 3, 256*46)}) != 0 {
		t.Error("another room")
	}
	for range 4 {
		for i := range 46 {
			adds(t, v, writes(2, i, 256*46))
		}
	}
	for v.Next() > v.Gone()+1 {
		pushes(t, v, 1)
	}
	if n, _ := v.State().Get(2); v.Store().Free() != 1 || v.Dirty() != 0 || len(n.Pages) != 46 {
		t.Error(v.Store().Free(), v.Dirty())
	}
	if got, err := v.Page(2, 45); err != 0 || !bytes.Equal(got, writes(2, 45, 256*46).Data) {
		t.Error(got, err)
	}
}

// drawnName is a name that stands somewhere, with its directory and its node, or, now and then, one that may stand nowhere.
func drawnName(s *state.State, next func(int) int) (int, string, int) {
	var l []api.Effect
	for in, n := range s.Nodes() {
		for _, e := range n.Names {
			l = append(l, unlinks(in, e.Name, e.Ino))
		}
	}
	if len(l) == 0 || next(12) == 0 {
		return 1 + next(s.Last()+1), "b", 1 + next(s.Last()+1)
	}
	e := l[next(len(l))]
	return e.Dir, e.Name, e.Ino
}

// drawnEffect is one of any kind, which can often be done in that state.
func drawnEffect(s *state.State, next func(int) int) api.Effect {
	names := []string{"a", "b", "c", "a longer name", "a name of 24 bytes here!"}
	in, text, of := drawnName(s, next)
	to, _, _ := drawnName(s, next)
	if next(3) == 0 {
		to = 1
	}
	other := names[next(len(names))]
	switch next(16) {
	case 0, 1:
		return makes(to, other, s.Last()+1, 1+next(3)/2)
	case 2:
		return links(to, other, of)
	case 3, 4, 5:
		return unlinks(in, text, of)
	case 6, 7:
		return rmdirs(in, text, of)
	case 8, 9:
		return renames(in, text, to, other, of)
	case 10:
		return truncs(of, next(2000))
	case 11, 12:
		if l := s.Orphans(); len(l) > 0 {
			return drops(l[next(len(l))])
		}
		return drops(of)
	}
	page := next(8)
	n, _ := s.Get(of)
	return writes(of, page, max(n.Size, 256*page+1+next(256)))
}

// drawnList is what is Added next: an effect or some, or what a Write or a Trunc tells, which must be what the chapter says.
func drawnList(t *testing.T, v *View, p *plain, next func(int) int) []api.Effect {
	t.Helper()
	_, _, of := drawnName(p.tree, next)
	switch next(6) {
	case 0, 1:
		off, b := next(2200)-100, noise(next(1000), next(700))
		l, err := v.Write(of, off, b)
		if want, wantErr := p.write(of, off, b); err != wantErr || !sameEffects(l, want) {
			t.Fatal("write", of, off, len(b), l, err, "must be", want, wantErr)
		}
		return l
	case 2:
		size := next(2200) - 100
		l, err := v.Trunc(of, size)
		if want, wantErr := p.trunc(of, size); err != wantErr || !sameEffects(l, want) {
			t.Fatal("trunc", of, size, l, err, "must be", want, wantErr)
		}
		return l
	}
	trial := p.tree.Copy()
	var l []api.Effect
	for range 1 + next(3) {
		e := drawnEffect(trial, next)
		trial.Apply(e, 1<<40+len(l))
		l = append(l, e)
	}
	return l
}

// P22.5, with all others: any effects in a long row, pushed now and then, held against a plain view.
func TestALongRow(t *testing.T) {
	for seed := range uint64(8) {
		next := draw(100 + seed)
		d := deviceOf(t, 64)
		most := 8 + int(seed)*3
		v := New(mounted(t, d), most)
		want := doubleOf(t, v.Store(), most)
		errs := map[api.Errno]int{}
		for range 700 {
			l := drawnList(t, v, want.seen, next)
			err, wantErr := v.Add(l), want.add(t, l)
			if err != wantErr {
				t.Fatal(seed, l, err, wantErr)
			}
			errs[err]++
			for range next(4) {
				is, err := v.Push()
				if is != want.push(t) || err != 0 {
					t.Fatal(seed, is, err)
				}
			}
			expect(t, v, want)
		}
		if errs[0] < 200 || errs[errState] < 50 || v.Gone() < 100 {
			t.Error(seed, errs, v.Gone())
		}
		if seed == 0 && errs[errBusy] == 0 {
			t.Error("never busy", errs)
		}
	}
}

// The same calls tell the same, on a view of their own.
func TestTheSameOnceMore(t *testing.T) {
	rows := [2][]look{}
	for k := range rows {
		next := draw(77)
		v := fresh(t, 64, 9)
		for range 200 {
			e := drawnEffect(v.State(), next)
			v.Add([]api.Effect{e})
			if next(2) == 0 {
				v.Push()
			}
			rows[k] = append(rows[k], lookAt(v))
		}
	}
	if !reflect.DeepEqual(rows[0], rows[1]) {
		t.Error("not the same")
	}
}

// Any numbers: each call ends, and what is refused changes nothing.
func TestAnything(t *testing.T) {
	numbers := []int{least, -1, 0, 1, 2, 3, 4, 6, 7, 63, 64, 256, 900, 16384, 16385, 1 << 20, 1<<20 + 1, greatest}
	texts := []string{"", "f", "d", "z", ".", "a/b", "a name of 25 bytes, or so", "\x00", "\xff"}
	next := draw(8)
	number := func() int { return numbers[next(len(numbers))] }
	v := scenes(t)["six stay"]
	for range 5000 {
		e := api.Effect{Kind: next(11) - 1, Ino: number(), Name: texts[next(len(texts))], Data: make([]byte, next(2)*256)}
		for _, field := range []*int{&e.Dir, &e.To, &e.Page, &e.Size} {
			if next(2) == 0 {
				*field = number()
			}
		}
		was := lookAt(v)
		if err := v.Add([]api.Effect{truncs(3, 5), e}); err != 0 {
			expectLook(t, v, was)
		}
		v.Page(number(), number())
		v.Bytes(number(), number(), number())
		v.Write(number(), number(), make([]byte, next(3)*1000))
		v.Trunc(number(), number())
		v.Last(number())
		v.Room(number())
	}
}
