package store

import (
	"reflect"
	"slices"
	"testing"

	"sump/api"
	"sump/bank"
	"sump/geom"
	"sump/image"
	"sump/pmem"
	"sump/record"
	"sump/state"
)

// P19.1: Mkfs

// By the example.
func TestExample(t *testing.T) {
	s := mounted(t, fresh(t))
	expectSeen(t, s, seen{Geom: small, Nodes: []api.Node{{Ino: 1, Kind: dir, Links: 1, Up: 1}}, Last: 1, Free: 47, Log: 127, Epoch: 1, K: 0})
}

func TestMkfsOfSizes(t *testing.T) {
	for n := range 4200 {
		d := pmem.New(n)
		want := errArg
		if n >= 2048 && n%32 == 0 {
			want = api.OK
		}
		if err := Mkfs(d); err != want {
			t.Fatal(n, err, want)
		}
		if want != api.OK {
			if d.Events() != 0 {
				t.Fatal(n, "something is done on a device that can't be")
			}
			continue
		}
		g, _ := geom.Of(n / 32)
		if s := mounted(t, d); s.Geom() != g || s.Free() != g.Data || s.Log() != g.Log || !reflect.DeepEqual(nodes(s.State()), nodes(state.New())) {
			t.Fatal(n, look(s))
		}
	}
}

func TestMkfsOfTheGreatestDevices(t *testing.T) {
	for _, words := range []int{1 << 25, 1<<25 - 32} {
		d := pmem.New(words)
		if err := Mkfs(d); err != 0 {
			t.Fatal(words, err)
		}
		s := mounted(t, d)
		if s.Free() != s.Geom().Data || s.Geom().Pages != words/32 {
			t.Fatal(words, look(s))
		}
		does(t, s, trees()...)
		s.Check()
		expectSame(t, mounted(t, d), s)
	}
	if err := Mkfs(pmem.New(1<<25 - 31)); err != errArg {
		t.Error(err)
	}
}

// Mkfs does its steps, wherever power fails within them.
func TestMkfsStepByStep(t *testing.T) {
	for _, d := range []*pmem.Device{pmem.New(2048), noise(2, 2048), noise(3, 32*77), fresh(t), after(t, trees()...).d} {
		for n := 0; ; n++ {
			one, other := d.Copy(), d.Copy()
			one.Arm(n)
			other.Arm(n)
			got, want := Mkfs(one), plainMkfs(other)
			if got != want || !alike(one, other) {
				t.Fatalf("power fails at %v: %v, and it must be %v", n, got, want)
			}
			if n > 0 && got == 0 {
				break
			}
		}
	}
}

// What stood on the device plays no part.
func TestMkfsOfAUsedDevice(t *testing.T) {
	s := after(t, trees()...)
	for range 3 {
		if err := Mkfs(s.d); err != 0 {
			t.Fatal(err)
		}
		s = mounted(t, s.d)
		expectSeen(t, s, look(after(t)))
		does(t, s, trees()...)
		s.Check()
	}
}

func TestMkfsOfADeadDevice(t *testing.T) {
	if err := Mkfs(dead(pmem.New(2048))); err != errIO {
		t.Error(err)
	}
	if err := Mkfs(dead(pmem.New(2049))); err != errArg {
		t.Error(err)
	}
	if err := Mkfs(dead(pmem.New(0))); err != errArg {
		t.Error(err)
	}
}

// P19.1: Mount

// logged is an effect in a log, with its ref.
type logged struct {
	e   api.Effect
	ref int
}

// laid is a small device with that picture and that log in bank k; the other bank has what can't be.
func laid(t *testing.T, epoch, k int, picture []uint64, log ...logged) *pmem.Device {
	t.Helper()
	d := noise(4, 2048)
	if bank.Make(d, small, k, picture) != 0 || bank.Switch(d, epoch, k) != 0 || bank.Format(d, small) != 0 {
		t.Fatal("not laid")
	}
	for _, one := range log {
		l, err := record.Put(one.e, one.ref)
		if err != 0 || bank.Append(d, small, k, l) != 0 {
			t.Fatal("not laid", one, err)
		}
	}
	return d
}

// has is a state behind these effects.
func has(t *testing.T, l ...logged) *state.State {
	t.Helper()
	s := state.New()
	for i, one := range l {
		if _, err := s.Apply(one.e, one.ref); err != 0 {
			t.Fatal(i, err)
		}
	}
	return s
}

// roots is a state with a file, an orphan and a directory, with pages at refs 5, 7 and 9.
func roots(t *testing.T) *state.State {
	return has(t, logged{makes(1, "f", 2, file), 0}, logged{makes(1, "o", 3, file), 0}, logged{makes(1, "d", 4, dir), 0},
		logged{writes(2, 0, 700), 5}, logged{writes(2, 2, 700), 7}, logged{writes(3, 0, 9), 9}, logged{unlinks(1, "o", 3), 0})
}

// expectRefused asks that a Mount tells this, and that it does nothing.
func expectRefused(t *testing.T, d *pmem.Device, want api.Errno) {
	t.Helper()
	was := d.Copy()
	if s, err := Mount(d); s != nil || err != want || !alike(d, was) {
		t.Fatalf("Mount: %v, and it must be %v", err, want)
	}
}

func TestMount(t *testing.T) {
	for _, c := range []struct{ epoch, k int }{{0, 0}, {0, 1}, {1, 0}, {5, 1}, {1 << 40, 0}, {1 << 40, 1}} {
		d := laid(t, c.epoch, c.k, image.Put(roots(t)), logged{writes(2, 1, 700), 47}, logged{writes(2, 0, 700), 1}, logged{makes(4, "n", 5, dir), 0})
		was := d.Copy()
		s := mounted(t, d)
		if !alike(d, was) {
			t.Fatal("something is written")
		}
		expectSeen(t, s, seen{Geom: small, Last: 5, Free: 44, Log: 127 - 11 - 11 - 12, Epoch: c.epoch, K: c.k, Nodes: []api.Node{
			{Ino: 1, Kind: dir, Links: 1, Up: 1, Names: []api.Entry{{Name: "d", Ino: 4}, {Name: "f", Ino: 2}}},
			{Ino: 2, Kind: file, Links: 1, Size: 700, Pages: []int{1, 47, 7}},
			{Ino: 4, Kind: dir, Links: 1, Up: 1, Names: []api.Entry{{Name: "n", Ino: 5}}},
			{Ino: 5, Kind: dir, Links: 1, Up: 4},
		}})
	}
}

// The pages that are used are those of the tree alone: not those of orphans, nor those that once were in the log.
func TestMountCountsPages(t *testing.T) {
	s := mounted(t, laid(t, 1, 0, image.Put(roots(t)), logged{writes(2, 1, 700), 2}, logged{writes(2, 1, 700), 3}, logged{writes(2, 0, 700), 1}))
	var told []int
	for page := range 10 {
		got, err := s.Commit(writes(2, 10+page, 256*(11+page)))
		if err != 0 {
			t.Fatal(err)
		}
		told = append(told, got)
	}
	if !slices.Equal(told, []int{2, 4, 5, 6, 8, 9, 10, 11, 12, 13}) || s.Free() != 47-13 {
		t.Error(told, s.Free())
	}
}

// Orphans go, wherever they come from; the numbers that they had don't come back.
func TestMountDropsOrphans(t *testing.T) {
	d := laid(t, 1, 0, image.Put(roots(t)), logged{makes(1, "p", 5, file), 0}, logged{writes(5, 1, 300), 30}, logged{unlinks(1, "p", 5), 0}, logged{unlinks(1, "f", 2), 0})
	s := mounted(t, d)
	want := seen{Geom: small, Last: 5, Free: 47, Log: 127 - 12 - 11 - 12 - 12, Epoch: 1, K: 0, Nodes: []api.Node{
		{Ino: 1, Kind: dir, Links: 1, Up: 1, Names: []api.Entry{{Name: "d", Ino: 4}}},
		{Ino: 4, Kind: dir, Links: 1, Up: 1},
	}}
	expectSeen(t, s, want)
	for _, ino := range []int{2, 3, 5} {
		for _, e := range []api.Effect{drops(ino), truncs(ino, 5), writes(ino, 0, 16384), links(1, "z", ino), makes(1, "z", ino, file)} {
			if page, err := s.Commit(e); page != 0 || err != errState {
				t.Error(e.Kind, ino, page, err)
			}
		}
	}
	expectSeen(t, s, want)
	does(t, s, makes(1, "z", 6, file), writes(6, 0, 9))
	expectSame(t, mounted(t, d), s)
}

func TestMountOfNoSystem(t *testing.T) {
	for _, n := range []int{2, 3, 32, 2047, 2048, 2049, 4096} {
		expectRefused(t, pmem.New(n), errCorrupt)
		expectRefused(t, noise(5, n), errCorrupt)
		d := pmem.New(n)
		set(d, 0, 0x73756d70, uint64(n/32))
		if n != 2048 && n != 4096 {
			expectRefused(t, d, errCorrupt)
		}
	}
	// The device's own error comes first, where it has no first words.
	expectRefused(t, pmem.New(0), errArg)
	expectRefused(t, pmem.New(1), errArg)
	expectRefused(t, dead(fresh(t)), errIO)
	expectRefused(t, dead(pmem.New(0)), errIO)
	// All words 0 but the head: bank 0 has a picture of no words.
	d := pmem.New(2048)
	set(d, 0, 0x73756d70, 64)
	expectRefused(t, d, errCorrupt)
}

// expectMount asks whether a log on top of a picture is taken.
func expectMount(t *testing.T, what string, taken bool, picture []uint64, log ...logged) {
	t.Helper()
	d := laid(t, 3, 1, picture, log...)
	was := d.Copy()
	s, err := Mount(d)
	if taken != (err == 0) || taken != (s != nil) || !taken && err != errCorrupt || !alike(d, was) {
		t.Errorf("%v: Mount tells %v", what, err)
	}
}

// An effect that can't be done spoils all, wherever it stands.
func TestMountOfEffectsThatCanNotBe(t *testing.T) {
	picture := image.Put(roots(t))
	expectMount(t, "nothing", true, picture)
	for i, one := range []logged{
		{makes(1, "n", 4, file), 0}, {makes(1, "n", 6, file), 0}, {makes(1, "f", 5, file), 0}, {makes(2, "n", 5, dir), 0}, {makes(9, "n", 5, dir), 0},
		{links(1, "n", 3), 0}, {links(1, "n", 4), 0}, {links(1, "d", 2), 0}, {unlinks(1, "d", 4), 0}, {unlinks(1, "n", 2), 0}, {unlinks(1, "f", 3), 0},
		{rmdirs(1, "f", 2), 0}, {rmdirs(1, "d", 1), 0}, {renames(1, "f", 1, "d", 2), 0}, {renames(1, "d", 4, "d", 4), 0}, {renames(1, "n", 4, "d", 2), 0},
		{truncs(4, 0), 0}, {truncs(5, 0), 0}, {writes(2, 0, 699), 6}, {writes(4, 0, 1), 6}, {writes(5, 0, 1), 6}, {drops(2), 0}, {drops(4), 0}, {drops(9), 0},
	} {
		expectMount(t, "alone", false, picture, one)
		expectMount(t, "ahead of what can be", false, picture, one, logged{makes(4, "z", 5, file), 0})
		expectMount(t, "behind what can be", false, picture, logged{truncs(2, 700), 0}, one)
		if t.Failed() {
			t.Fatal(i)
		}
	}
	// What is done once can't be done twice.
	expectMount(t, "once", true, picture, logged{drops(3), 0})
	expectMount(t, "twice", false, picture, logged{drops(3), 0}, logged{drops(3), 0})
}

// What the refs are counts only when all is done, and the orphans are dropped.
func TestMountOfRefs(t *testing.T) {
	picture := image.Put(roots(t))
	two := func(ref int) []logged {
		return []logged{{makes(1, "p", 5, file), 0}, {writes(5, 0, 300), ref}}
	}
	for _, ref := range []int{1, 6, 46, 47, 9, 0} {
		expectMount(t, "a page that is free", true, picture, two(ref)...)
	}
	for _, ref := range []int{5, 7, 48, 49, 64, 1 << 20} {
		expectMount(t, "a page that can't be", false, picture, two(ref)...)
		expectMount(t, "it is written once more", true, picture, append(two(ref), logged{writes(5, 0, 300), 8})...)
		expectMount(t, "it is a hole", true, picture, append(two(ref), logged{writes(5, 0, 300), 0})...)
		expectMount(t, "it is cut off", true, picture, append(two(ref), logged{truncs(5, 0), 0})...)
		expectMount(t, "it is cut off too late", false, picture, append(two(ref), logged{truncs(5, 1), 0})...)
		expectMount(t, "it is an orphan's", true, picture, append(two(ref), logged{unlinks(1, "p", 5), 0})...)
		expectMount(t, "it is no longer anybody's", true, picture, append(two(ref), logged{unlinks(1, "p", 5), 0}, logged{drops(5), 0})...)
	}
	expectMount(t, "the other one goes", true, picture, append(two(5), logged{truncs(2, 0), 0})...)
	expectMount(t, "the other one is an orphan's", true, picture, append(two(7), logged{unlinks(1, "f", 2), 0})...)
	expectMount(t, "twice in one file", false, picture, append(two(8), logged{writes(5, 1, 300), 8})...)
	for _, ref := range []int{47, 48, 1 << 20, greatest} {
		high := has(t, logged{makes(1, "f", 2, file), 0}, logged{writes(2, 0, 9), ref})
		expectMount(t, "in the picture", ref == 47, image.Put(high))
		expectMount(t, "in the picture, and written once more", true, image.Put(high), logged{writes(2, 0, 9), 1})
		high.Apply(unlinks(1, "f", 2), 0)
		expectMount(t, "in the picture, of an orphan", true, image.Put(high))
	}
}

// filled is a state with so many words beside those of a new one, and so many pages; each file has 10 words, its page one more.
func filled(t *testing.T, words, pages int) *state.State {
	t.Helper()
	l := []logged{{makes(1, "f", 2, file), 0}, {makes(1, "g", 3, file), 0}}
	words -= 20
	for i := range pages {
		l = append(l, logged{writes(2, i, 256*(i+1)), i + 1})
	}
	words -= pages
	if words > 0 {
		l = append(l, logged{truncs(3, 256*words), 0})
	}
	return has(t, l...)
}

// A new state has 9 words, and a picture has the sum behind them, so that 117 more go into one of 127.
func TestMountOfWhatDoesNotFit(t *testing.T) {
	if s := filled(t, 117, 46); s.Words() != 126 || len(s.Refs()) != 46 {
		t.Fatal(s.Words(), len(s.Refs()))
	}
	full, whole := image.Put(filled(t, 117, 46)), image.Put(filled(t, 117, 33))
	expectMount(t, "all words and pages that may be", true, full)
	expectMount(t, "a page too much", false, image.Put(filled(t, 110, 47)))
	expectMount(t, "a page too much, for a while", true, full, logged{writes(3, 48, 16384), 47}, logged{truncs(3, 0), 0})
	expectMount(t, "a page too much, and no word", false, full, logged{writes(3, 50, 256*51), 47})
	expectMount(t, "a page that is replaced", true, full, logged{writes(2, 0, 256*46), 47})
	expectMount(t, "a word too much, by the log", false, whole, logged{truncs(2, 256*34), 0})
	expectMount(t, "no word more", true, whole, logged{truncs(2, 256*33), 0})
	expectMount(t, "a word too much, for a while", true, whole, logged{truncs(2, 256*34), 0}, logged{truncs(2, 256*33), 0})
	expectMount(t, "it goes with an orphan", true, whole, logged{truncs(2, 256*34), 0}, logged{unlinks(1, "f", 2), 0})
	expectMount(t, "a page goes with an orphan", true, image.Put(filled(t, 110, 47)), logged{unlinks(1, "f", 2), 0})
	expectMount(t, "a node too much", false, whole, logged{makes(1, "h", 4, file), 0})
}

// A picture or a log that isn't one.
func TestMountOfWordsThatAreNone(t *testing.T) {
	picture := image.Put(roots(t))
	expectMount(t, "no picture", false, nil)
	for i := range picture {
		expectMount(t, "a picture that is cut", false, picture[:i])
		other := slices.Clone(picture)
		other[i]++
		expectMount(t, "a picture that was turned", false, other)
	}
	expectMount(t, "a word more", false, append(slices.Clone(picture), 0))
	entry, _ := record.Put(makes(1, "n", 5, dir), 0)
	for i := 1; i <= len(entry); i++ {
		d := laid(t, 1, 0, picture, logged{truncs(2, 5), 0})
		if err := bank.Append(d, small, 0, entry[:i]); err != 0 {
			t.Fatal(err)
		}
		if i < len(entry) {
			expectRefused(t, d, errCorrupt)
			continue
		}
		if _, err := mounted(t, d).State().Find("/n"); err != 0 {
			t.Error(err)
		}
	}
}

// The words that a bank's first ones count may be no more than there is room for; the root must be one.
func TestMountOfHeadsThatCanNotBe(t *testing.T) {
	for k := range 2 {
		for at, words := range [][]uint64{{128, 1 << 32, 1 << 62, 1 << 63, 1<<64 - 1}, {128, 1 << 40, 1<<64 - 1, 0, 1, 126, 127}} {
			for _, w := range words {
				d := laid(t, 1, k, image.Put(roots(t)), logged{truncs(2, 5), 0})
				set(d, 32+256*k+at, w)
				expectRefused(t, d, errCorrupt)
			}
		}
	}
	for _, root := range []uint64{2<<40 + 2, 2<<40 + 3, 1 << 62, 1 << 63, 1<<64 - 1} {
		d := fresh(t)
		set(d, 2, root)
		expectRefused(t, d, errCorrupt)
	}
	for at, words := range [][]uint64{{0, 1, 0x73756d71, 0x73756d70 << 32, 1<<64 - 1}, {0, 63, 65, 128, 1 << 20, 1<<20 + 1, 1<<63 + 64, 1<<64 - 1}} {
		for _, w := range words {
			d := fresh(t)
			set(d, at, w)
			expectRefused(t, d, errCorrupt)
		}
	}
}

// What the cache has counts, whether it stays or not.
func TestMountOfWhatIsDirty(t *testing.T) {
	d := pmem.New(2048)
	was := fresh(t)
	for i := range 2048 {
		w, _ := was.Load(i)
		d.Store(i, w)
	}
	expectSeen(t, mounted(t, d), look(after(t)))
	d.Crash(nil)
	expectRefused(t, d, errCorrupt)
}
