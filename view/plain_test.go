package view

import (
	"bytes"
	"maps"
	"reflect"
	"slices"
	"testing"

	"sump/api"
	"sump/pmem"
	"sump/room"
	"sump/state"
	"sump/store"
)

// The numbers of the document, written out, so that no constant of the program is held against itself.
const (
	errNone  api.Errno = 2
	errIO    api.Errno = 5
	errBusy  api.Errno = 16
	errIsDir api.Errno = 21
	errBig   api.Errno = 27
	errSpace api.Errno = 28
	errArg   api.Errno = 90
	errNil   api.Errno = 91
	errState api.Errno = 93
	greatest           = int(^uint(0) >> 1)
	least              = -greatest - 1
	file               = 1
	dir                = 2
)

// draw is a row of numbers that is the same each time.
func draw(seed uint64) func(below int) int {
	x := seed*2862933555777941757 + 88172645463325252
	return func(below int) int {
		x ^= x << 13
		x ^= x >> 7
		x ^= x << 17
		return int(x >> 20 % uint64(below))
	}
}

func makes(in int, s string, ino, kind int) api.Effect {
	return api.Effect{Kind: 1, Dir: in, Name: s, Ino: ino, Page: kind}
}

func links(in int, s string, ino int) api.Effect {
	return api.Effect{Kind: 2, Dir: in, Name: s, Ino: ino}
}

func unlinks(in int, s string, ino int) api.Effect {
	return api.Effect{Kind: 3, Dir: in, Name: s, Ino: ino}
}

func rmdirs(in int, s string, ino int) api.Effect {
	return api.Effect{Kind: 4, Dir: in, Name: s, Ino: ino}
}

func renames(in int, s string, to int, other string, ino int) api.Effect {
	return api.Effect{Kind: 5, Dir: in, Name: s, To: to, Other: other, Ino: ino}
}

func truncs(ino, size int) api.Effect { return api.Effect{Kind: 6, Ino: ino, Size: size} }

// noise is bytes none of which is 0, so that each that must be is seen.
func noise(seed, many int) []byte {
	next := draw(uint64(seed))
	b := make([]byte, many)
	for i := range b {
		b[i] = byte(1 + next(255))
	}
	return b
}

// writes has bytes that are unlike those of other writes, behind the size, too.
func writes(ino, page, size int) api.Effect {
	return api.Effect{Kind: 7, Ino: ino, Page: page, Size: size, Data: noise(ino*100000+page*20000+size, 256)}
}

func drops(ino int) api.Effect { return api.Effect{Kind: 8, Ino: ino} }

// deviceOf has a new tree, and so many pages.
func deviceOf(t *testing.T, pages int) *pmem.Device {
	t.Helper()
	d := pmem.New(32 * pages)
	if err := store.Mkfs(d); err != 0 {
		t.Fatal(err)
	}
	return d
}

func mounted(t *testing.T, d *pmem.Device) *store.Store {
	t.Helper()
	st, err := store.Mount(d)
	if err != 0 {
		t.Fatal(err)
	}
	return st
}

// fresh is a view of a new tree on a device of so many pages.
func fresh(t *testing.T, pages, most int) *View {
	t.Helper()
	return New(mounted(t, deviceOf(t, pages)), most)
}

// adds adds effects one by one.
func adds(t *testing.T, v *View, l ...api.Effect) {
	t.Helper()
	for i, e := range l {
		if err := v.Add([]api.Effect{e}); err != 0 {
			t.Fatal(i, err)
		}
	}
}

func pushes(t *testing.T, v *View, many int) {
	t.Helper()
	for i := range many {
		if is, err := v.Push(); !is || err != 0 {
			t.Fatal(i, is, err)
		}
	}
}

// dead has power fail.
func dead(t *testing.T, d *pmem.Device) {
	t.Helper()
	d.Arm(1)
	if d.Fence(); !d.Dead() {
		t.Fatal("power hasn't failed")
	}
}

// nodes are those of a state; an empty list and none are the same.
func nodes(s *state.State) []api.Node {
	var l []api.Node
	for _, n := range s.Nodes() {
		if len(n.Pages) == 0 {
			n.Pages = nil
		}
		if len(n.Names) == 0 {
			n.Names = nil
		}
		l = append(l, n)
	}
	return l
}

// whatever has its refs told apart from holes alone.
func whatever(l []api.Node) []api.Node {
	for _, n := range l {
		for i, ref := range n.Pages {
			if ref != 0 {
				n.Pages[i] = 1
			}
		}
	}
	return l
}

// plain is a tree with the bytes of its pages, each under a ref that none had: what effects come to, by layer 16's words.
type plain struct {
	tree  *state.State
	pages map[int][]byte
	last  int
}

func plainOf(t *testing.T, st *store.Store) *plain {
	t.Helper()
	p := &plain{tree: st.State(), pages: map[int][]byte{}, last: 1 << 30}
	for _, ref := range p.tree.Refs() {
		b, err := st.Read(ref)
		if err != 0 {
			t.Fatal(err)
		}
		p.pages[ref] = b
	}
	return p
}

func (p *plain) copy() *plain {
	return &plain{p.tree.Copy(), maps.Clone(p.pages), p.last}
}

func (p *plain) do(t *testing.T, l ...api.Effect) {
	t.Helper()
	for i, e := range l {
		ref := 0
		if e.Kind == 7 {
			p.last++
			ref = p.last
			p.pages[ref] = bytes.Clone(e.Data)
		}
		if _, err := p.tree.Apply(e, ref); err != 0 {
			t.Fatal("effect", i, err)
		}
	}
}

// whole is all bytes of a file, up to its Size.
func (p *plain) whole(ino int) []byte {
	n, _ := p.tree.Get(ino)
	var l []byte
	for _, ref := range n.Pages {
		if ref == 0 {
			l = append(l, make([]byte, 256)...)
			continue
		}
		l = append(l, p.pages[ref]...)
	}
	return l[:n.Size]
}

func (p *plain) isHole(ino, i int) bool {
	n, _ := p.tree.Get(ino)
	return i < 0 || i >= len(n.Pages) || n.Pages[i] == 0
}

func (p *plain) refusal(ino int) api.Errno {
	n, is := p.tree.Get(ino)
	if !is {
		return errNone
	}
	if n.Kind == dir {
		return errIsDir
	}
	return 0
}

func (p *plain) page(ino, i int) ([]byte, api.Errno) {
	if err := p.refusal(ino); err != 0 {
		return nil, err
	}
	b := make([]byte, 256)
	if i >= 0 && i < 64 {
		l := p.whole(ino)
		copy(b, l[min(len(l), 256*i):])
	}
	return b, 0
}

func (p *plain) bytes(ino, off, n int) ([]byte, api.Errno) {
	if err := p.refusal(ino); err != 0 {
		return nil, err
	}
	if off < 0 || n < 0 {
		return nil, errArg
	}
	l := p.whole(ino)
	l = l[min(off, len(l)):]
	return l[:min(n, len(l))], 0
}

// write is P22.2's Write, byte by byte.
func (p *plain) write(ino, off int, b []byte) ([]api.Effect, api.Errno) {
	if err := p.refusal(ino); err != 0 {
		return nil, err
	}
	if off < 0 {
		return nil, errArg
	}
	if off > 16384 || off+len(b) > 16384 {
		return nil, errBig
	}
	if len(b) == 0 {
		return nil, 0
	}
	n, _ := p.tree.Get(ino)
	size := n.Size
	var l []api.Effect
	if off > size && size%256 != 0 && !p.isHole(ino, size/256) && off/256 != size/256 {
		page, _ := p.page(ino, size/256)
		l = append(l, api.Effect{Kind: 7, Ino: ino, Page: size / 256, Size: size, Data: page})
	}
	for i := range 64 {
		if off >= 256*(i+1) || off+len(b) <= 256*i {
			continue
		}
		page, _ := p.page(ino, i)
		for k, x := range b {
			if (off+k)/256 == i {
				page[(off+k)%256] = x
				size = max(size, off+k+1)
			}
		}
		l = append(l, api.Effect{Kind: 7, Ino: ino, Page: i, Size: size, Data: page})
	}
	return l, 0
}

// trunc is P22.2's Trunc.
func (p *plain) trunc(ino, size int) ([]api.Effect, api.Errno) {
	if err := p.refusal(ino); err != 0 {
		return nil, err
	}
	if size < 0 || size > 16384 {
		return nil, errBig
	}
	n, _ := p.tree.Get(ino)
	if size == n.Size {
		return nil, 0
	}
	if size > n.Size && n.Size%256 != 0 && !p.isHole(ino, n.Size/256) {
		page, _ := p.page(ino, n.Size/256)
		return []api.Effect{{Kind: 7, Ino: ino, Page: n.Size / 256, Size: size, Data: page}}, 0
	}
	return []api.Effect{truncs(ino, size)}, 0
}

// double is a view by the chapter's words: the tree that is seen, the tree that stays, and all effects from the New on.
type double struct {
	seen, stays *plain
	geom        api.Geom
	most        int
	effects     []api.Effect
	gone        int
}

func doubleOf(t *testing.T, st *store.Store, most int) *double {
	t.Helper()
	return &double{seen: plainOf(t, st), stays: plainOf(t, st), geom: st.Geom(), most: min(max(most, 8), 256)}
}

func manyWrites(l []api.Effect) int {
	many := 0
	for _, e := range l {
		if e.Kind == 7 {
			many++
		}
	}
	return many
}

func (d *double) pending() []api.Effect { return d.effects[d.gone:] }

func (d *double) add(t *testing.T, l []api.Effect) api.Errno {
	t.Helper()
	if err := room.Try(d.geom, d.seen.tree, l); err != 0 {
		return err
	}
	if manyWrites(d.pending())+manyWrites(l) > d.most {
		return errBusy
	}
	d.seen.do(t, l...)
	for _, e := range l {
		e.Data = bytes.Clone(e.Data)
		d.effects = append(d.effects, e)
	}
	return 0
}

func (d *double) push(t *testing.T) bool {
	t.Helper()
	if len(d.pending()) == 0 {
		return false
	}
	d.stays.do(t, d.effects[d.gone])
	d.gone++
	return true
}

func (d *double) lastOf(ino int) int {
	for i := len(d.effects) - 1; i >= d.gone; i-- {
		if d.effects[i].Ino == ino {
			return i + 1
		}
	}
	return d.gone
}

// expect holds all that a view tells against what it must.
func expect(t *testing.T, v *View, d *double) {
	t.Helper()
	if v.Gone() != d.gone || v.Next() != len(d.effects)+1 || v.Dirty() != manyWrites(d.pending()) {
		t.Fatal("gone, next, dirty:", v.Gone(), v.Next(), v.Dirty(), "must be", d.gone, len(d.effects)+1, manyWrites(d.pending()))
	}
	for ino := range d.seen.tree.Last() + 2 {
		if v.Last(ino) != d.lastOf(ino) {
			t.Fatal("last of", ino, v.Last(ino), d.lastOf(ino))
		}
	}
	left := d.most - v.Dirty()
	if !v.Room(left) || !v.Room(0) || v.Room(left+1) || v.Room(-1) {
		t.Fatal("room", left)
	}
	var pending []api.Effect
	for _, e := range d.pending() {
		e.Data = nil
		pending = append(pending, e)
	}
	if got := v.Pending(); !reflect.DeepEqual(got, pending) {
		t.Fatal("pending", got, "must be", pending)
	}
	expectTree(t, v, d.seen)
	expectRefs(t, v)
	expectTree(t, New(v.Store(), 8), d.stays)
}

// expectTree holds the nodes, and each page of each file, against a plain tree's.
func expectTree(t *testing.T, v *View, p *plain) {
	t.Helper()
	s := v.State()
	if got, want := whatever(nodes(s)), whatever(nodes(p.tree)); !reflect.DeepEqual(got, want) || s.Last() != p.tree.Last() || !s.Right() {
		t.Fatal("nodes", got, "must be", want)
	}
	for ino, n := range s.Nodes() {
		for i := range len(n.Pages) + 1 {
			got, err := v.Page(ino, i)
			if want, wantErr := p.page(ino, i); !bytes.Equal(got, want) || err != wantErr {
				t.Fatal("page", ino, i, got, err, "must be", want, wantErr)
			}
		}
		got, err := v.Bytes(ino, 0, 16384)
		if want, wantErr := p.bytes(ino, 0, 16384); !bytes.Equal(got, want) || err != wantErr {
			t.Fatal("bytes", ino, got, err, "must be", want, wantErr)
		}
	}
}

// expectRefs: those above 0 are pages of data, which the store has at the same places; those below 0 are pages of the cache.
func expectRefs(t *testing.T, v *View) {
	t.Helper()
	stays := v.Store().State()
	dirty := 0
	for ino, n := range v.State().Nodes() {
		laid, _ := stays.Get(ino)
		for i, ref := range n.Pages {
			if ref > 0 && (i >= len(laid.Pages) || laid.Pages[i] != ref) {
				t.Fatal("a page of data that the store hasn't there:", ino, i, ref)
			}
			if ref < 0 {
				dirty++
			}
		}
	}
	if dirty > v.Dirty() {
		t.Fatal("pages of the cache that are seen:", dirty, v.Dirty())
	}
}

// look is all of a view that can be seen without reading a page.
type look struct {
	Nodes, Stays        []api.Node
	Last, Gone, Next    int
	Dirty, Free         int
	Pending             []api.Effect
	RoomIs, RoomIsAbove bool
}

func lookAt(v *View) look {
	left := 256
	for left > 0 && !v.Room(left) {
		left--
	}
	return look{
		Nodes: nodes(v.State()), Stays: nodes(v.Store().State()), Last: v.State().Last(), Gone: v.Gone(), Next: v.Next(),
		Dirty: v.Dirty(), Free: v.Store().Free(), Pending: v.Pending(), RoomIs: v.Room(left), RoomIsAbove: v.Room(left + 1),
	}
}

func expectLook(t *testing.T, v *View, want look) {
	t.Helper()
	if got := lookAt(v); !reflect.DeepEqual(got, want) {
		t.Fatalf("%+v; it must be %+v", got, want)
	}
}

func sameEffects(a, b []api.Effect) bool {
	return slices.EqualFunc(a, b, func(x, y api.Effect) bool { return reflect.DeepEqual(x, y) })
}
