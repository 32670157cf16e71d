package store

import (
	"bytes"
	"reflect"
	"testing"

	"sump/api"
	"sump/pmem"
	"sump/state"
)

// P19.2

// scenes are stores of many kinds: a new one, one with an orphan, one whose log is full, one without room, and one in bank 1.
func scenes(t *testing.T) map[string]*Store {
	t.Helper()
	full := after(t, trees()[:10]...)
	if full.Log() != 11 {
		t.Fatal(full.Log())
	}
	brim := after(t, trees()[:10]...)
	does(t, brim, truncs(5, 700))
	if brim.Log() != 0 {
		t.Fatal(brim.Log())
	}
	turned := after(t, trees()...)
	turned.Check()
	does(t, turned, writes(6, 1, 300), writes(5, 2, 700), unlinks(3, "h", 4))
	return map[string]*Store{
		"new": after(t), "tree": after(t, trees()...), "few words left": full, "no words left": brim, "bank 1": turned, "no pages left": packed(t),
	}
}

// packed is a store in which all pages but one are used, and all words of a picture.
func packed(t *testing.T) *Store {
	t.Helper()
	s := after(t, makes(1, "f", 2, file), makes(1, "g", 3, file))
	for i := range 46 {
		does(t, s, writes(2, i, 256*(i+1)))
	}
	does(t, s, truncs(3, 256*51))
	if s.Free() != 1 || s.State().Words() != 126 {
		t.Fatal(look(s))
	}
	return s
}

// someEffects are effects of all kinds, many of which can be done in one scene or another.
func someEffects() []api.Effect {
	l := []api.Effect{
		makes(1, "z", 2, file), makes(1, "z", 4, dir), makes(2, "a name of 24 bytes here!", 7, file), makes(3, "z", 7, dir), makes(1, "f", 7, file),
		links(2, "z", 4), links(1, "z", 6), unlinks(1, "f", 4), unlinks(1, "f", 2), unlinks(2, "g", 5), unlinks(2, "e", 3),
		rmdirs(2, "e", 3), rmdirs(1, "d", 2), renames(1, "f", 2, "g", 4), renames(2, "e", 1, "z", 3), renames(1, "d", 3, "z", 2), renames(1, "f", 1, "g", 2),
		truncs(4, 0), truncs(4, 256), truncs(5, 16384), truncs(2, 256*45), truncs(2, 0), truncs(3, 256*51), truncs(3, 256*52), truncs(1, 0),
		writes(4, 1, 300), writes(4, 63, 16384), writes(5, 0, 700), writes(6, 0, 300), writes(2, 45, 256*46), writes(2, 46, 256*47), writes(3, 50, 256*51), writes(4, 0, 299), writes(7, 0, 1),
		drops(6), drops(4), drops(1), drops(7),
	}
	bare := writes(4, 1, 300)
	bare.Data = bare.Data[:255]
	return append(l, bare, api.Effect{}, api.Effect{Kind: 9, Ino: 4}, truncs(4, 16385), truncs(4, -1), makes(1, "..", 7, file), drops(0), writes(4, 64, 16384))
}

// A Commit does its steps, wherever power fails within them; then nothing has changed but the device, and, if all goes well, all that must.
func TestCommitStepByStep(t *testing.T) {
	kinds, errs := map[int]int{}, map[api.Errno]int{}
	for name, s := range scenes(t) {
		for i, e := range someEffects() {
			for n := 0; ; n++ {
				one, other := twin(s), plainOf(s)
				one.d.Arm(n)
				other.d.Arm(n)
				page, err := one.Commit(e)
				wantPage, want := other.commit(e)
				if page != wantPage || err != want || !alike(one.d, other.d) {
					t.Fatalf("%v, effect %v, power fails at %v: %v, %v; it must be %v, %v", name, i, n, page, err, wantPage, want)
				}
				expectSeen(t, one, other.look())
				if err != 0 {
					was := look(s)
					was.Log = one.Log()
					expectSeen(t, one, was)
				}
				if n == 0 {
					errs[err]++
				}
				if n > 0 && err == 0 {
					kinds[e.Kind]++
				}
				if n > 0 && err != errIO {
					break
				}
			}
		}
	}
	for kind := 1; kind <= 8; kind++ {
		if kinds[kind] == 0 {
			t.Error("no effect of kind", kind)
		}
	}
	for _, err := range []api.Errno{0, errForm, errState, errSpace} {
		if errs[err] == 0 {
			t.Error("no error", err)
		}
	}
}

// Behind each Commit the store is as a Mount of its device tells it, but for the orphans.
func TestCommitStays(t *testing.T) {
	for name, s := range scenes(t) {
		for i, e := range someEffects() {
			one := twin(s)
			one.Commit(e)
			if len(one.d.Dirty()) != 0 {
				t.Fatal(name, i, "something is dirty")
			}
			one.d.Crash(nil)
			again := mounted(t, one.d)
			expectSame(t, again, one)
			epoch, k := one.Epoch()
			if gotEpoch, gotK := again.Epoch(); gotEpoch != epoch || gotK != k || again.Log() != one.Log() {
				t.Fatal(name, i, look(again))
			}
		}
	}
}

// The first error that applies is told, with nothing done at all.
func TestCommitsErrors(t *testing.T) {
	s := packed(t)
	dark := packed(t)
	dead(dark.d)
	short := writes(2, 46, 256*47)
	short.Data = short.Data[:255]
	for i, c := range []struct {
		e    api.Effect
		want api.Errno
	}{
		{api.Effect{}, errForm}, {drops(0), errForm}, {short, errForm}, {writes(2, 64, 16384), errForm}, {makes(1, "a/b", 9, file), errForm}, {makes(9, "f", 1<<20+1, file), errForm},
		{makes(9, "a", 4, file), errState}, {makes(1, "f", 4, file), errState}, {makes(1, "a", 9, file), errState}, {writes(2, 50, 256*45), errForm}, {writes(2, 0, 256*45), errState}, {writes(9, 0, 1), errState}, {drops(2), errState},
		{makes(1, "a", 4, file), errSpace}, {links(1, "h", 2), errSpace}, {writes(2, 46, 256*47), errSpace}, {writes(3, 50, 256*51), errSpace}, {truncs(3, 256*52), errSpace}, {renames(1, "f", 1, "123456789", 2), errSpace},
	} {
		for _, one := range []*Store{twin(s), twin(dark)} {
			was := twin(one)
			if page, err := one.Commit(c.e); page != 0 || err != c.want || !alike(one.d, was.d) {
				t.Error(i, page, err, c.want)
			}
			expectSeen(t, one, look(was))
		}
	}
	// What takes nothing is done, also where nothing is left.
	for i, e := range []api.Effect{truncs(2, 0), truncs(3, 5), unlinks(1, "f", 2), renames(1, "f", 1, "g", 2), renames(1, "f", 1, "12345678", 2), writes(2, 7, 256*46), makes(1, "z", 9, file)} {
		want := api.OK
		if e.Kind == 1 {
			want = errState
		}
		if _, err := twin(s).Commit(e); err != want {
			t.Error(i, err)
		}
		if want == api.OK {
			want = errIO
		}
		if _, err := twin(dark).Commit(e); err != want {
			t.Error(i, err)
		}
	}
}

// The least free page is told of a write, and has its bytes; the pages that go are free again behind it, not ahead of it.
func TestCommitTellsPages(t *testing.T) {
	s := after(t)
	for i, c := range []struct {
		e          api.Effect
		page, free int
	}{
		{makes(1, "f", 2, file), 0, 47}, {writes(2, 0, 256), 1, 46}, {writes(2, 3, 1024), 2, 45}, {writes(2, 0, 1024), 3, 45}, {writes(2, 0, 1025), 1, 45}, {writes(2, 1, 1025), 3, 44},
		{makes(1, "g", 3, file), 0, 44}, {writes(3, 63, 16384), 4, 43}, {truncs(2, 256), 0, 45}, {writes(3, 62, 16384), 2, 44}, {writes(3, 61, 16384), 3, 43}, {truncs(3, 16384), 0, 43},
		{truncs(3, 256*62), 0, 45}, {links(1, "h", 3), 0, 45}, {unlinks(1, "g", 3), 0, 45}, {unlinks(1, "h", 3), 0, 45}, {writes(3, 0, 16384), 2, 44}, {drops(3), 0, 46},
		{makes(1, "g", 4, file), 0, 46}, {writes(4, 0, 1), 2, 45}, {renames(1, "f", 1, "g", 2), 0, 45}, {drops(4), 0, 46}, {unlinks(1, "g", 2), 0, 46}, {drops(2), 0, 47},
	} {
		page, err := s.Commit(c.e)
		if page != c.page || err != 0 || s.Free() != c.free {
			t.Fatal(i, page, err, s.Free(), c)
		}
		if b, err := s.Read(page); page != 0 && (err != 0 || !bytes.Equal(b, c.e.Data)) {
			t.Fatal(i, b, err)
		}
	}
}

// A write to a page that has bytes already lays the new ones elsewhere.
func TestCommitLeavesWhatStood(t *testing.T) {
	s := after(t, makes(1, "f", 2, file), writes(2, 0, 9))
	was, _ := s.Read(1)
	does(t, s, writes(2, 0, 10))
	if now, _ := s.Read(1); !bytes.Equal(now, was) {
		t.Error("page 1 is another one")
	}
	if now, _ := s.Read(2); !bytes.Equal(now, writes(2, 0, 10).Data) {
		t.Error("page 2 isn't what was written")
	}
}

// A log that is full to its last word is no reason for a Check; one word too much is. The picture is of the tree ahead of the effect, which stands in the new log.
func TestCommitWhenTheLogIsFull(t *testing.T) {
	s := after(t, trees()[:10]...)
	for i, c := range []struct {
		e             api.Effect
		epoch, k, log int
	}{
		{truncs(5, 700), 1, 0, 0}, {truncs(5, 600), 2, 1, 116}, {unlinks(1, "o", 6), 2, 1, 104}, {truncs(6, 0), 2, 1, 93}, {writes(6, 0, 5), 2, 1, 82}, {writes(6, 0, 6), 2, 1, 71},
		{writes(6, 1, 500), 2, 1, 60}, {truncs(6, 400), 2, 1, 49}, {truncs(6, 300), 2, 1, 38}, {drops(6), 2, 1, 27}, {makes(3, "a name of 24 bytes here!", 7, file), 2, 1, 13},
		{renames(3, "a name of 24 bytes here!", 3, "123456789", 7), 3, 0, 127 - 16}, {unlinks(3, "123456789", 7), 3, 0, 127 - 16 - 13},
	} {
		_, err := s.Commit(c.e)
		if epoch, k := s.Epoch(); err != 0 || epoch != c.epoch || k != c.k || s.Log() != c.log {
			t.Fatal(i, err, epoch, k, s.Log())
		}
		expectSame(t, mounted(t, s.d), s)
	}
}

// A device is filled to its last word and its last page, and emptied again.
func TestCommitTillThereIsNoRoom(t *testing.T) {
	s := after(t)
	made := 0
	for {
		e := makes(1, string([]byte{'a' + byte(made)}), 2+made, file)
		if _, err := s.Commit(e); err == errSpace {
			break
		} else if err != 0 {
			t.Fatal(err)
		}
		made++
	}
	if made != 11 || s.State().Words() != 119 {
		t.Error(made, s.State().Words())
	}
	for i := range 11 {
		does(t, s, unlinks(1, string([]byte{'a' + byte(i)}), 2+i), drops(2+i))
	}
	does(t, s, makes(1, "f", 13, file))
	for i := range 64 {
		e := writes(13, i%64, 256*(i%64+1))
		want := api.OK
		if i >= 46 {
			want = errSpace
		}
		if _, err := s.Commit(e); err != want {
			t.Fatal(i, err)
		}
	}
	if s.Free() != 1 {
		t.Error(s.Free())
	}
	// The one page that is free goes round.
	for i := range 200 {
		page, err := s.Commit(writes(13, i%46, 256*46))
		if err != 0 || s.Free() != 1 || page == 0 {
			t.Fatal(i, page, err, s.Free())
		}
	}
	expectSame(t, mounted(t, s.d), s)
	does(t, s, truncs(13, 0))
	if s.Free() != 47 {
		t.Error(s.Free())
	}
}

// drawnName is a name that stands somewhere, with its directory and its node, or, now and then, one that may stand nowhere.
func drawnName(s *state.State, next func(int) int) (int, string, int) {
	var l []api.Effect
	for in, n := range s.Nodes() {
		for _, e := range n.Names {
			l = append(l, unlinks(in, e.Name, e.Ino))
		}
	}
	if len(l) == 0 || next(12) == 0 {
		return 1 + next(s.Last()+1), "b", 1 + next(s.Last()+1)
	}
	e := l[next(len(l))]
	return e.Dir, e.Name, e.Ino
}

// drawnEffect is one of any kind, which can often be done in that state.
func drawnEffect(s *state.State, next func(int) int) api.Effect {
	names := []string{"a", "b", "c", "a longer name", "a name of 24 bytes here!"}
	in, text, of := drawnName(s, next)
	to, _, _ := drawnName(s, next)
	if next(3) == 0 {
		to = 1
	}
	other := names[next(len(names))]
	switch next(16) {
	case 0, 1:
		return makes(to, other, s.Last()+1, 1+next(3)/2)
	case 2:
		return links(to, other, of)
	case 3, 4, 5:
		return unlinks(in, text, of)
	case 6, 7:
		return rmdirs(in, text, of)
	case 8, 9:
		return renames(in, text, to, other, of)
	case 10:
		return truncs(of, next(2000))
	case 11, 12:
		if l := s.Orphans(); len(l) > 0 {
			return drops(l[next(len(l))])
		}
		return drops(of)
	}
	page := next(8)
	n, _ := s.Get(of)
	return writes(of, page, max(n.Size, 256*page+1+next(256)))
}

// Any effects in a long row, held against a plain store; each file's bytes, against what was written to it.
func TestCommitsInALongRow(t *testing.T) {
	for seed := range uint64(6) {
		next := draw(seed)
		s := mounted(t, fresh(t))
		p := plainOf(s)
		wrote := map[[2]int][]byte{}
		done := 0
		for range 3000 {
			e := drawnEffect(s.State(), next)
			page, err := s.Commit(e)
			want, wantErr := p.commit(e)
			if page != want || err != wantErr {
				t.Fatal(seed, page, err, want, wantErr, e)
			}
			if err == 0 {
				done++
			}
			if e.Kind == 7 && err == 0 {
				wrote[[2]int{e.Ino, e.Page}] = e.Data
			}
			expectSeen(t, s, p.look())
			for ino, n := range s.State().Nodes() {
				for i, ref := range n.Pages {
					if b, _ := s.Read(ref); ref != 0 && !bytes.Equal(b, wrote[[2]int{ino, i}]) {
						t.Fatal(seed, ino, i, ref)
					}
				}
			}
		}
		if !alike(s.d, p.d) {
			t.Error(seed, "the devices aren't alike")
		}
		if epoch, _ := s.Epoch(); done < 500 || epoch < 40 {
			t.Error(seed, "too little is done:", done, epoch)
		}
	}
}

// A store on a greater device goes by that device's places.
func TestCommitOnGreaterDevices(t *testing.T) {
	for _, pages := range []int{65, 71, 72, 100, 1000, 5000} {
		d := pmem.New(32 * pages)
		if err := Mkfs(d); err != 0 {
			t.Fatal(pages, err)
		}
		s := mounted(t, d)
		p := plainOf(s)
		for i, e := range append(trees(), someEffects()...) {
			page, err := s.Commit(e)
			if want, wantErr := p.commit(e); page != want || err != wantErr {
				t.Fatal(pages, i, page, err)
			}
			if b, _ := s.Read(page); page != 0 && !bytes.Equal(b, e.Data) {
				t.Fatal(pages, i, page, b)
			}
		}
		if _, err := s.Read(s.Geom().Data); err != 0 {
			t.Error(pages, err)
		}
		expectSeen(t, s, p.look())
		if !alike(s.d, p.d) {
			t.Fatal(pages, "the devices aren't alike")
		}
		expectSame(t, mounted(t, d), s)
	}
}

// Any numbers and any texts: each Commit ends, and what it refuses changes nothing.
func TestCommitOfAnything(t *testing.T) {
	numbers := []int{least, -1, 0, 1, 2, 3, 4, 7, 63, 64, 256, 16384, 16385, 1 << 20, 1<<20 + 1, greatest}
	texts := []string{"", "f", "d", "z", ".", "a/b", "a name of 25 bytes, or so", "\x00", "\xff"}
	next := draw(7)
	s := after(t, trees()...)
	for range 20000 {
		number := func() int { return numbers[next(len(numbers))] }
		e := api.Effect{Kind: next(11) - 1, Ino: number(), Name: texts[next(len(texts))]}
		for _, field := range []*int{&e.Dir, &e.To, &e.Page, &e.Size} {
			if next(2) == 0 {
				*field = number()
			}
		}
		if next(2) == 0 {
			e.Other = texts[next(len(texts))]
		}
		if next(2) == 0 {
			e.Data = make([]byte, 255+next(3))
		}
		was := look(s)
		if page, err := s.Commit(e); err != 0 && (page != 0 || !reflect.DeepEqual(look(s), was)) {
			t.Fatal(e, page, err)
		}
	}
	expectSame(t, mounted(t, s.d), s)
}
