package store

import (
	"bytes"
	"reflect"
	"slices"
	"testing"

	"sump/api"
	"sump/pmem"
	"sump/state"
)

// fresh is a small device with a new tree.
func fresh(t *testing.T) *pmem.Device {
	t.Helper()
	d := pmem.New(2048)
	if err := Mkfs(d); err != 0 {
		t.Fatal(err)
	}
	return d
}

func mounted(t *testing.T, d *pmem.Device) *Store {
	t.Helper()
	s, err := Mount(d)
	if err != 0 {
		t.Fatal(err)
	}
	return s
}

// does commits effects that can be.
func does(t *testing.T, s *Store, l ...api.Effect) {
	t.Helper()
	for i, e := range l {
		if _, err := s.Commit(e); err != 0 {
			t.Fatal(i, err)
		}
	}
}

// after is a store on a fresh small device, behind these effects.
func after(t *testing.T, l ...api.Effect) *Store {
	t.Helper()
	s := mounted(t, fresh(t))
	does(t, s, l...)
	return s
}

// trees are the effects of a tree with files that have holes, two names, and none.
func trees() []api.Effect {
	return []api.Effect{
		makes(1, "d", 2, dir), makes(2, "e", 3, dir), makes(1, "f", 4, file), makes(2, "g", 5, file), makes(1, "o", 6, file),
		writes(4, 0, 256), writes(4, 1, 300), writes(5, 2, 700), writes(6, 0, 9),
		links(3, "h", 4), unlinks(1, "o", 6),
	}
}

// twin is a store like s on a device like its own; both go their own ways.
func twin(s *Store) *Store {
	other := *s
	other.d, other.tree, other.pages = s.d.Copy(), s.tree.Copy(), s.pages.Copy()
	return &other
}

// plainOf is a plain store like s, on a device like its own.
func plainOf(s *Store) *plain {
	p := &plain{d: s.d.Copy(), g: s.g, tree: s.tree.Copy(), epoch: s.epoch, k: s.bank, used: map[int]bool{}}
	for _, ref := range p.tree.Refs() {
		p.used[ref] = true
	}
	return p
}

// alike holds two devices against each other, also by what is on its way: a fence tells that.
func alike(a, b *pmem.Device) bool {
	same := func(a, b *pmem.Device) bool {
		if a.Words() != b.Words() || a.Events() != b.Events() || a.Dead() != b.Dead() || !slices.Equal(a.Dirty(), b.Dirty()) {
			return false
		}
		for i := range a.Words() {
			v, _ := a.Load(i)
			w, _ := b.Load(i)
			if v != w || a.Stays(i) != b.Stays(i) {
				return false
			}
		}
		return true
	}
	if !same(a, b) || a.Dead() {
		return same(a, b)
	}
	a, b = a.Copy(), b.Copy()
	a.Fence()
	b.Fence()
	return same(a, b)
}

// set makes words stay.
func set(d *pmem.Device, at int, l ...uint64) {
	for i, w := range l {
		d.Store(at+i, w)
		d.Flush((at + i) / 8)
	}
	d.Fence()
}

// noise is a device whose words all stay as something.
func noise(seed uint64, words int) *pmem.Device {
	d, next := pmem.New(words), draw(seed)
	for i := range words {
		d.Store(i, uint64(next(1<<40))<<next(24))
		d.Evict(i / 8)
	}
	return d
}

// dead is d, without power.
func dead(d *pmem.Device) *pmem.Device {
	d.Arm(1)
	d.Fence()
	return d
}

// expectSeen asks that a store tells just this.
func expectSeen(t *testing.T, s *Store, want seen) {
	t.Helper()
	if got := look(s); !reflect.DeepEqual(got, want) {
		t.Fatalf("it tells %v, and must tell %v", got, want)
	}
}

// expectSame asks that two trees are alike, with the bytes of all their pages.
func expectSame(t *testing.T, got, want *Store) {
	t.Helper()
	if !reflect.DeepEqual(contentOf(got), contentOf(want)) {
		t.Fatalf("the tree is %v, and must be %v", nodes(got.State()), nodes(want.State()))
	}
}

// content is a tree without its orphans, and the bytes of all its pages.
type content struct {
	Nodes []api.Node
	Last  int
	Bytes [][]byte
}

func contentOf(s *Store) content {
	tree := withoutOrphans(s.State())
	c := content{Nodes: nodes(tree), Last: tree.Last()}
	for _, ref := range tree.Refs() {
		b, _ := s.Read(ref)
		c.Bytes = append(c.Bytes, b)
	}
	return c
}

// P19.3

func TestCheck(t *testing.T) {
	s := after(t, trees()[:10]...)
	was := look(s)
	if was.Epoch != 1 || was.K != 0 || was.Log != 11 {
		t.Fatal(was)
	}
	for n := range 6 {
		before := twin(s)
		if err := s.Check(); err != 0 {
			t.Fatal(err)
		}
		was.Epoch, was.K, was.Log = n+2, (n+1)%2, 127
		expectSeen(t, s, was)
		expectSame(t, mounted(t, s.d), before)
		expectSeen(t, mounted(t, s.d), was)
	}
	does(t, s, makes(1, "z", 7, file))
	was.Log, was.Last = 127-12, 7
	was.Nodes = nodes(s.State())
	expectSeen(t, s, was)
}

// A Check does its steps, wherever power fails within them; then nothing has changed but the device.
func TestCheckStepByStep(t *testing.T) {
	for _, s := range []*Store{after(t), after(t, trees()...), after(t, append(trees(), truncs(4, 7), drops(6))...)} {
		s.Check()
		does(t, s, makes(1, "n", s.State().Last()+1, dir))
		for n := 0; ; n++ {
			one, other := twin(s), plainOf(s)
			one.d.Arm(n)
			other.d.Arm(n)
			got, want := one.Check(), other.check()
			if got != want || !alike(one.d, other.d) {
				t.Fatalf("power fails at %v: %v, and it must be %v", n, got, want)
			}
			was := look(s)
			if got != 0 {
				was.Log = 0
				expectSeen(t, one, was)
				continue
			}
			expectSeen(t, one, other.look())
			if n > 0 {
				break
			}
		}
	}
}

// The greatest epoch that a root tells has none behind it: there the root begins anew.
func TestCheckAtTheGreatestEpoch(t *testing.T) {
	d := fresh(t)
	set(d, 2, 2<<40)
	s := mounted(t, d)
	does(t, s, trees()[:10]...)
	if epoch, k := s.Epoch(); epoch != 1<<40 || k != 0 {
		t.Errorf("%v, %v", epoch, k)
	}
	if err := s.Check(); err != 0 {
		t.Fatal(err)
	}
	if epoch, k := s.Epoch(); epoch != 1<<40+1 || k != 1 {
		t.Errorf("%v, %v", epoch, k)
	}
	again := mounted(t, d)
	expectSame(t, again, s)
	if epoch, k := again.Epoch(); epoch != 0 || k != 1 {
		t.Errorf("mounted: %v, %v", epoch, k)
	}
	does(t, s, makes(1, "z", 7, file))
	expectSame(t, mounted(t, d), s)
	s.Check()
	expectSame(t, mounted(t, d), s)
}

func TestRead(t *testing.T) {
	d := noise(1, 2048)
	if err := Mkfs(d); err != 0 {
		t.Fatal(err)
	}
	s := mounted(t, d)
	for page := 1; page <= 47; page++ {
		b, err := s.Read(page)
		if err != 0 || len(b) != 256 {
			t.Fatal(page, len(b), err)
		}
		for i, v := range b {
			word, _ := d.Load(512 + 32*page + i/8)
			if v != byte(word>>(i%8*8)) {
				t.Fatal(page, i, v)
			}
		}
	}
	for _, page := range []int{0, -1, -47, 48, 49, 64, 1 << 20, greatest, least} {
		if b, err := s.Read(page); b != nil || err != errArg {
			t.Error(page, len(b), err)
		}
	}
}

// What is stored last is read, whether it stays or not.
func TestReadOfWhatIsDirty(t *testing.T) {
	s := after(t)
	s.d.Store(544, 0x0807060504030201)
	if b, err := s.Read(1); err != 0 || !bytes.Equal(b[:9], []byte{1, 2, 3, 4, 5, 6, 7, 8, 0}) {
		t.Error(b, err)
	}
}

func TestReadOfADeadDevice(t *testing.T) {
	s := after(t, trees()...)
	dead(s.d)
	for page := 1; page <= 47; page++ {
		if b, err := s.Read(page); b != nil || err != errIO {
			t.Error(page, len(b), err)
		}
	}
	if b, err := s.Read(0); b != nil || err != errArg {
		t.Error(len(b), err)
	}
}

// What a store keeps is told without power, too; its log stands on the device.
func TestWhatIsToldOfADeadDevice(t *testing.T) {
	s := after(t, trees()...)
	want := look(s)
	dead(s.d)
	want.Log = 0
	expectSeen(t, s, want)
	if err := s.Check(); err != errIO {
		t.Error(err)
	}
	expectSeen(t, s, want)
}

func TestLog(t *testing.T) {
	s := after(t)
	for i, c := range []struct {
		e   api.Effect
		log int
	}{
		{makes(1, "a", 2, file), 115}, {makes(1, "a name of 24 bytes here!", 3, dir), 101}, {truncs(2, 5), 90}, {writes(2, 0, 5), 79},
		{renames(1, "a", 3, "b", 2), 66}, {unlinks(3, "b", 2), 54}, {drops(2), 43}, {rmdirs(1, "a name of 24 bytes here!", 3), 29}, {makes(1, "123456789", 4, file), 16}, {links(1, "c", 4), 4},
		{unlinks(1, "c", 4), 115},
	} {
		does(t, s, c.e)
		if s.Log() != c.log {
			t.Error(i, s.Log(), c.log)
		}
	}
}

// P19.6

func TestNobodyMadeThem(t *testing.T) {
	for _, s := range []*Store{nil, {}, new(Store)} {
		for _, e := range append(trees(), api.Effect{}, drops(0), api.Effect{Kind: least}) {
			if page, err := s.Commit(e); page != 0 || err != errNil {
				t.Error(page, err)
			}
		}
		for _, page := range []int{least, -1, 0, 1, 47, 48, greatest} {
			if b, err := s.Read(page); b != nil || err != errNil {
				t.Error(b, err)
			}
		}
		epoch, k := s.Epoch()
		if s.Check() != errNil || s.State() != nil || s.Geom() != (api.Geom{}) || s.Free() != 0 || s.Log() != 0 || epoch != 0 || k != 0 {
			t.Error(s.Check(), s.State(), s.Geom(), s.Free(), s.Log(), epoch, k)
		}
	}
	for _, d := range []*pmem.Device{nil, {}} {
		if err := Mkfs(d); err != errNil {
			t.Error(err)
		}
		if s, err := Mount(d); s != nil || err != errNil {
			t.Error(s, err)
		}
	}
}

// Rules that hold everywhere

func TestAnswersShareNothing(t *testing.T) {
	s := after(t, trees()...)
	want := look(s)
	one := s.State()
	one.Apply(makes(1, "x", 7, file), 0)
	one.Turn(4, 0, 1, 40)
	for _, n := range one.Nodes() {
		clear(n.Pages)
		clear(n.Names)
	}
	expectSeen(t, s, want)
	kept := s.State()
	does(t, s, unlinks(1, "f", 4))
	if !reflect.DeepEqual(nodes(kept), want.Nodes) {
		t.Error("a State goes with its store")
	}
	b, _ := s.Read(1)
	other, _ := s.Read(1)
	clear(b[:cap(b)])
	again, _ := s.Read(1)
	if !bytes.Equal(other, again) || bytes.Equal(b, again) {
		t.Error("a Read shares its bytes")
	}
}

func TestArgumentsStayAsTheyAre(t *testing.T) {
	s := after(t, makes(1, "f", 2, file))
	whole := append(writes(2, 0, 9).Data, 1, 2, 3)
	was := slices.Clone(whole)
	e := api.Effect{Kind: 7, Ino: 2, Size: 9, Data: whole[:256]}
	page, err := s.Commit(e)
	if err != 0 || !bytes.Equal(whole, was) || len(e.Data) != 256 {
		t.Fatal(err, e)
	}
	clear(whole)
	if b, _ := s.Read(page); !bytes.Equal(b, was[:256]) {
		t.Error("the bytes go with the argument")
	}
	expectSame(t, mounted(t, s.d), s)
}

// Two stores on devices of their own have nothing in common.
func TestStoresGoTheirOwnWays(t *testing.T) {
	one, other := after(t, trees()...), after(t)
	want := look(one)
	does(t, other, makes(1, "x", 2, file), writes(2, 3, 1000))
	other.Check()
	expectSeen(t, one, want)
	expectSame(t, mounted(t, one.d), one)
	if !reflect.DeepEqual(nodes(after(t).State()), nodes(state.New())) {
		t.Error("a new tree isn't new")
	}
}
